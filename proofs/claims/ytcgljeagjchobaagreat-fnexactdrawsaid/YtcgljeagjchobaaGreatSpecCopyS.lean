/-
  What spec.l15Copy does.
-/
import Derived.Test.YtcgljeagjchobaaGreatGenPick
import Derived.Test.YtcgljeagjchobaaGreatSpecCopyAll
import Derived.Deep.RegionHeld3
namespace Go.Proofs.YtcgljeagjchobaaGreat
open Go.RowKit M
set_option linter.unusedVariables false

theorem OwnG.low {α : Type} {cs : α → List Value} {K : Nat} {tE : TypeId} {w : World} {B B' : Nat} {v : Value} {l : List α} (h : OwnG tE K cs w B v l) (hB : B' ≤ B) : OwnG tE K cs w B' v l := by
  refine ⟨h.1, ?_⟩
  rcases h.2 with e | ⟨g, cap, cur, e, hb, r⟩
  · exact .inl e
  · exact .inr ⟨g, cap, cur, e, Nat.le_trans hB hb, r⟩

set_option maxRecDepth 100000 in
set_option maxHeartbeats 16000000 in
theorem specL15Copy_any (x : Sv) (ta : Option Addr) (tc : Nat) (la : Option Addr) (lc : Nat) (da : Option Addr) (dc : Nat) (ua : Option Addr) (uc B : Nat) (w : World) (h : SvIn w B x ta tc la lc da dc ua uc) (hB : B ≤ w.heap.size) (hs : SvSmall x) :
    Calls Tryz.prog 37 #[.agg #[.slice ta x.t.length tc, .slice la x.l.length lc, .int .i64 x.now, .int .i64 x.ver, .slice da x.dr.length dc, .slice ua x.us.length uc]] w fun e w' => (∃ p0 c0 p1 c1 p4 c4 p5 c5 l0 h0 l1 h1 : Nat, e = .returned (.agg #[.slice (some ⟨p0, 0, none⟩) x.t.length c0, .slice (some ⟨p1, 0, none⟩) x.l.length c1, .int .i64 x.now, .int .i64 x.ver, .slice (some ⟨p4, 0, none⟩) x.dr.length c4, .slice (some ⟨p5, 0, none⟩) x.us.length c5]) ∧
      Vw w' l0 h0 (.slice (some ⟨p0, 0, none⟩) x.t.length c0) (.l (x.t.map dRs)) ∧ Vw w' l1 h1 (.slice (some ⟨p1, 0, none⟩) x.l.length c1) (.l (x.l.map dLk)) ∧ OwnG 3 1 ci w' w.heap.size (.slice (some ⟨p4, 0, none⟩) x.dr.length c4) x.dr ∧ OwnG 3 1 ci w' w.heap.size (.slice (some ⟨p5, 0, none⟩) x.us.length c5) x.us ∧
      w.heap.size + 2 ≤ l0 ∧ w.heap.size + 2 ≤ l1 ∧ w.heap.size + 2 ≤ p4 ∧ w.heap.size + 2 ≤ p5 ∧ (p4 < l0 ∨ h0 ≤ p4) ∧ (p4 < l1 ∨ h1 ≤ p4) ∧ p4 ≠ p5 ∧ (h0 ≤ l1 ∨ h1 ≤ l0)) ∧ Below w.heap.size w w' := by
  have K0 := hide (show Below w.heap.size w ((w.alloc (Obj.cells #[.slice ta x.t.length tc, .slice la x.l.length lc, .int .i64 x.now, .int .i64 x.ver, .slice da x.dr.length dc, .slice ua x.us.length uc] 32)).alloc (Obj.cells #[.slice none 0 0, .slice none 0 0, .int .i64 0, .int .i64 0, .slice none 0 0, .slice none 0 0] 32)).drew from below_drewG (((Below.refl _ _).alloc (Nat.le_refl _) _).alloc (by simp) _))
  have X0 := hide (show BoxV ((w.alloc (Obj.cells #[.slice ta x.t.length tc, .slice la x.l.length lc, .int .i64 x.now, .int .i64 x.ver, .slice da x.dr.length dc, .slice ua x.us.length uc] 32)).alloc (Obj.cells #[.slice none 0 0, .slice none 0 0, .int .i64 0, .int .i64 0, .slice none 0 0, .slice none 0 0] 32)).drew w.heap.size [.slice ta x.t.length tc, .slice la x.l.length lc, .int .i64 x.now, .int .i64 x.ver, .slice da x.dr.length dc, .slice ua x.us.length uc] from ((BoxV.made w [.slice ta x.t.length tc, .slice la x.l.length lc, .int .i64 x.now, .int .i64 x.ver, .slice da x.dr.length dc, .slice ua x.us.length uc] 32).alloc _).drew)
  have Z0 := hide (show BoxV ((w.alloc (Obj.cells #[.slice ta x.t.length tc, .slice la x.l.length lc, .int .i64 x.now, .int .i64 x.ver, .slice da x.dr.length dc, .slice ua x.us.length uc] 32)).alloc (Obj.cells #[.slice none 0 0, .slice none 0 0, .int .i64 0, .int .i64 0, .slice none 0 0, .slice none 0 0] 32)).drew (w.heap.size + 1) [.slice none 0 0, .slice none 0 0, .int .i64 0, .int .i64 0, .slice none 0 0, .slice none 0 0] by have h := (BoxV.made (w.alloc (Obj.cells #[.slice ta x.t.length tc, .slice la x.l.length lc, .int .i64 x.now, .int .i64 x.ver, .slice da x.dr.length dc, .slice ua x.us.length uc] 32)) [.slice none 0 0, .slice none 0 0, .int .i64 0, .int .i64 0, .slice none 0 0, .slice none 0 0] 32).drew; simpa using h)
  have y0 : w.heap.size + 2 ≤ ((w.alloc (Obj.cells #[.slice ta x.t.length tc, .slice la x.l.length lc, .int .i64 x.now, .int .i64 x.ver, .slice da x.dr.length dc, .slice ua x.us.length uc] 32)).alloc (Obj.cells #[.slice none 0 0, .slice none 0 0, .int .i64 0, .int .i64 0, .slice none 0 0, .slice none 0 0] 32)).drew.heap.size := by simp
  have hpa : ∀ r ∈ x.t, r.pa.length ≤ 1048576 ∧ r.ps.length ≤ 1048576 := hs.tpa
  have hla : ∀ r ∈ x.l, r.pa.length ≤ 1048576 := fun r hr => (hs.lpa r hr).1
  have HT := hide (fun W (hb : Below w.heap.size w W) => specCopyAll_any ta x.t tc B W (h.th.below hb hB) (Nat.le_trans hB hb.size) hs.tlen hpa)
  have HL := hide (fun W (hb : Below w.heap.size w W) => l13Copy_any la x.l lc B W (h.lh.below hb hB) (Nat.le_trans hB hb.size) (Nat.le_trans hs.llen (by decide)) hla)
  have HD := hide (fun W (hb : Below w.heap.size w W) => (h.dh.below hb hB).mono hB)
  have HU := hide (fun W (hb : Below w.heap.size w W) => (h.uh.below hb hB).mono hB)
  have HDn := hide h.dl.2.2
  have HUn := hide h.ul.2.2
  have HDl := hide (show x.dr.length ≤ 1048577 from Nat.le_trans hs.d (by decide))
  have HUl := hide (show x.us.length ≤ 1048577 from Nat.le_trans hs.u (by decide))
  clear h hs hB hpa hla
  have flat0 : ∀ W : World, BoxV W w.heap.size [.slice ta x.t.length tc, .slice la x.l.length lc, .int .i64 x.now, .int .i64 x.ver, .slice da x.dr.length dc, .slice ua x.us.length uc] → (W.cell? ⟨w.heap.size, 0, none⟩ = some (.slice ta x.t.length tc) ∧ W.cell? ⟨w.heap.size, 1, none⟩ = some (.slice la x.l.length lc) ∧ W.cell? ⟨w.heap.size, 2, none⟩ = some (.int .i64 x.now) ∧ W.cell? ⟨w.heap.size, 3, none⟩ = some (.int .i64 x.ver) ∧ W.cell? ⟨w.heap.size, 4, none⟩ = some (.slice da x.dr.length dc) ∧ W.cell? ⟨w.heap.size, 5, none⟩ = some (.slice ua x.us.length uc)) := fun W X => ⟨(X.2 0 _ rfl).1, (X.2 1 _ rfl).1, (X.2 2 _ rfl).1, (X.2 3 _ rfl).1, (X.2 4 _ rfl).1, (X.2 5 _ rfl).1⟩
  go_enter Tryz.func37, Tryz.ntmps37
  go_wp2
  refine wp_region_held_drew (S := (fun W => W.cell? ⟨w.heap.size, 0, none⟩ = some (.slice ta x.t.length tc) ∧ W.cell? ⟨w.heap.size, 1, none⟩ = some (.slice la x.l.length lc) ∧ W.cell? ⟨w.heap.size, 2, none⟩ = some (.int .i64 x.now) ∧ W.cell? ⟨w.heap.size, 3, none⟩ = some (.int .i64 x.ver) ∧ W.cell? ⟨w.heap.size, 4, none⟩ = some (.slice da x.dr.length dc) ∧ W.cell? ⟨w.heap.size, 5, none⟩ = some (.slice ua x.us.length uc))) (by kernel_rfl) (flat0 _ X0.out) (fun hHeld => ?_)
  clear hHeld
  obtain ⟨w0, hw0⟩ : ∃ X, ((w.alloc (Obj.cells #[.slice ta x.t.length tc, .slice la x.l.length lc, .int .i64 x.now, .int .i64 x.ver, .slice da x.dr.length dc, .slice ua x.us.length uc] 32)).alloc (Obj.cells #[.slice none 0 0, .slice none 0 0, .int .i64 0, .int .i64 0, .slice none 0 0, .slice none 0 0] 32)).drew = X := ⟨_, rfl⟩
  rw [hw0] at K0 X0 Z0 y0 ⊢
  clear hw0
  obtain ⟨N, hN⟩ : ∃ n, w.heap.size = n := ⟨_, rfl⟩
  rw [hN] at K0 X0 Z0 y0 HT HL HD HU flat0 ⊢
  have hN1 : N ≤ w.heap.size := Nat.le_of_eq hN.symm
  have hN2 : w.heap.size ≤ N := Nat.le_of_eq hN
  clear hN
  have flat := flat0
  have hHeld : (fun W : World => W.cell? ⟨N, 0, none⟩ = some (.slice ta x.t.length tc) ∧ W.cell? ⟨N, 1, none⟩ = some (.slice la x.l.length lc) ∧ W.cell? ⟨N, 2, none⟩ = some (.int .i64 x.now) ∧ W.cell? ⟨N, 3, none⟩ = some (.int .i64 x.ver) ∧ W.cell? ⟨N, 4, none⟩ = some (.slice da x.dr.length dc) ∧ W.cell? ⟨N, 5, none⟩ = some (.slice ua x.us.length uc)) w0 := flat _ X0.out
  simp only [List.size_toArray, List.length_cons, List.length_nil, Nat.reduceAdd, Array.replicate_succ, Array.replicate_zero, List.push_toArray, List.nil_append, List.cons_append]
  refine wpAnyH_take (i := 0) (v := ?_) rfl (by kernel_rfl) (by kernel_rfl) (by kernel_rfl) (fun _ _ _ h => h) (Or.inl ⟨by rfl, ?_⟩) (by assumption) ?_
  rotate_left
  · intro w hSw; (try dsimp only at hSw); go_simp; try with_reducible rfl
  simp only [Act.put, List.getElem_toArray, List.getElem_cons_zero, List.setIfInBounds_toArray, List.set_cons_zero]
  refine wpAnyH_take (i := 1) (v := ?_) rfl (by kernel_rfl) (by kernel_rfl) (by kernel_rfl) (fun _ _ _ h => h) (Or.inl ⟨by rfl, ?_⟩) (by assumption) ?_
  rotate_left
  · intro w hSw; (try dsimp only at hSw); go_simp; try with_reducible rfl
  simp only [Act.put, List.getElem_toArray, List.getElem_cons_succ, List.getElem_cons_zero, List.setIfInBounds_toArray, List.set_cons_succ, List.set_cons_zero]
  refine wpAnyH_take (i := 3) (v := ?_) rfl (by kernel_rfl) (by kernel_rfl) (by kernel_rfl) (fun _ _ _ h => h) (Or.inl ⟨by rfl, ?_⟩) (by assumption) ?_
  rotate_left
  · intro w hSw; (try dsimp only at hSw); go_simp; try with_reducible rfl
  simp only [Act.put, List.getElem_toArray, List.getElem_cons_succ, List.getElem_cons_zero, List.setIfInBounds_toArray, List.set_cons_succ, List.set_cons_zero]
  refine wpAnyH_take (i := 4) (v := ?_) rfl (by kernel_rfl) (by kernel_rfl) (by kernel_rfl) (fun _ _ _ h => h) (Or.inl ⟨by rfl, ?_⟩) (by assumption) ?_
  rotate_left
  · intro w hSw; (try dsimp only at hSw); go_simp; try with_reducible rfl
  simp only [Act.put, List.getElem_toArray, List.getElem_cons_succ, List.getElem_cons_zero, List.setIfInBounds_toArray, List.set_cons_succ, List.set_cons_zero]
  refine wpAnyH_take (i := 6) (v := ?_) rfl (by kernel_rfl) (by kernel_rfl) (by kernel_rfl) (fun _ _ _ h => h) (Or.inl ⟨by rfl, ?_⟩) (by assumption) ?_
  rotate_left
  · intro w hSw; (try dsimp only at hSw); go_simp; try with_reducible rfl
  simp only [Act.put, List.getElem_toArray, List.getElem_cons_succ, List.getElem_cons_zero, List.setIfInBounds_toArray, List.set_cons_succ, List.set_cons_zero]
  refine wpAnyH_take (i := 7) (v := ?_) rfl (by kernel_rfl) (by kernel_rfl) (by kernel_rfl) (fun _ _ _ h => h) (Or.inl ⟨by rfl, ?_⟩) (by assumption) ?_
  rotate_left
  · intro w hSw; (try dsimp only at hSw); go_simp; try with_reducible rfl
  simp only [Act.put, List.getElem_toArray, List.getElem_cons_succ, List.getElem_cons_zero, List.setIfInBounds_toArray, List.set_cons_succ, List.set_cons_zero]
  refine wpAnyH_take (i := 8) (v := ?_) rfl (by kernel_rfl) (by kernel_rfl) (by kernel_rfl) (fun _ _ _ h => h) (Or.inl ⟨by rfl, ?_⟩) (by assumption) ?_
  rotate_left
  · intro w hSw; (try dsimp only at hSw); go_simp; try with_reducible rfl
  simp only [Act.put, List.getElem_toArray, List.getElem_cons_succ, List.getElem_cons_zero, List.setIfInBounds_toArray, List.set_cons_succ, List.set_cons_zero]
  refine wpAnyH_take (i := 9) (v := ?_) rfl (by kernel_rfl) (by kernel_rfl) (by kernel_rfl) (fun _ _ _ h => h) (Or.inl ⟨by rfl, ?_⟩) (by assumption) ?_
  rotate_left
  · intro w hSw; (try dsimp only at hSw); go_simp; try with_reducible rfl
  simp only [Act.put, List.getElem_toArray, List.getElem_cons_succ, List.getElem_cons_zero, List.setIfInBounds_toArray, List.set_cons_succ, List.set_cons_zero]
  refine wpAnyH_take (i := 11) (v := ?_) rfl (by kernel_rfl) (by kernel_rfl) (by kernel_rfl) (fun _ _ _ h => h) (Or.inl ⟨by rfl, ?_⟩) (by assumption) ?_
  rotate_left
  · intro w hSw; (try dsimp only at hSw); go_simp; try with_reducible rfl
  simp only [Act.put, List.getElem_toArray, List.getElem_cons_succ, List.getElem_cons_zero, List.setIfInBounds_toArray, List.set_cons_succ, List.set_cons_zero]
  refine wpAnyH_take (i := 12) (v := ?_) rfl (by kernel_rfl) (by kernel_rfl) (by kernel_rfl) (fun _ _ _ h => h) (Or.inl ⟨by rfl, ?_⟩) (by assumption) ?_
  rotate_left
  · intro w hSw; (try dsimp only at hSw); go_simp; try with_reducible rfl
  simp only [Act.put, List.getElem_toArray, List.getElem_cons_succ, List.getElem_cons_zero, List.setIfInBounds_toArray, List.set_cons_succ, List.set_cons_zero]
  refine wpAnyH_take (i := 15) (v := ?_) rfl (by kernel_rfl) (by kernel_rfl) (by kernel_rfl) (fun _ _ _ h => h) (Or.inl ⟨by rfl, ?_⟩) (by assumption) ?_
  rotate_left
  · intro w hSw; (try dsimp only at hSw); go_simp; try with_reducible rfl
  simp only [Act.put, List.getElem_toArray, List.getElem_cons_succ, List.getElem_cons_zero, List.setIfInBounds_toArray, List.set_cons_succ, List.set_cons_zero]
  refine wpAnyH_take (i := 16) (v := ?_) rfl (by kernel_rfl) (by kernel_rfl) (by kernel_rfl) (fun _ _ _ h => h) (Or.inl ⟨by rfl, ?_⟩) (by assumption) ?_
  rotate_left
  · intro w hSw; (try dsimp only at hSw); go_simp; try with_reducible rfl
  simp only [Act.put, List.getElem_toArray, List.getElem_cons_succ, List.getElem_cons_zero, List.setIfInBounds_toArray, List.set_cons_succ, List.set_cons_zero]
  refine wpAnyH_ready (rs := [2, 10, 14]) (by kernel_rfl) (by simp) ?_
  refine AllReadyH.cons rfl (fun K hK => ?_) (AllReadyH.cons rfl (fun K hK => ?_) (AllReadyH.cons rfl (fun K hK => ?_) AllReadyH.nil))
  · go_simp
    refine (HT.out _ K0.out).mono ?_
    rintro e w1 ⟨⟨vT, tsT, rfl, gT, mT⟩, b1⟩
    obtain ⟨⟨pT, cT, eT⟩, vwT⟩ := vw_of_grow gT mT
    subst eT
    have K1 := hide (K0.out.trans (b1.mono (by have := K0.out.size; omega)))
    have X1 := hide (X0.out.next b1)
    have Z1 := hide (Z0.out.next b1)
    have y1 := b1.size
    clear K0 X0 Z0
    have T1 := hide vwT
    clear b1 gT mT vwT HT
    refine hK.out _ _ (flat _ X1.out) (fun hHeld2 => ?_)
    clear hK K hHeld
    have hHeld := hHeld2
    clear hHeld2
    simp only [List.setIfInBounds_toArray, List.set_cons_succ, List.set_cons_zero]
    refine wpAnyH_ready (rs := [5, 10, 14]) (by kernel_rfl) (by simp) ?_
    refine AllReadyH.cons rfl (fun K hK => ?_) (AllReadyH.cons rfl (fun K hK => ?_) (AllReadyH.cons rfl (fun K hK => ?_) AllReadyH.nil))
    · go_simp
      refine (HL.out _ K1.out).mono ?_
      rintro e w2 ⟨⟨gL, cL, tsL, rfl, mL, rL, pL, lgL, lcL, lmL⟩, b2⟩
      have vwL := vw_of_rowV mL rL pL lgL lcL lmL
      have K2 := hide (K1.out.trans (b2.mono (by have := K1.out.size; omega)))
      have X2 := hide (X1.out.next b2)
      have Z2 := hide (Z1.out.next b2)
      have y2 := b2.size
      have T2 := hide (T1.out.next b2)
      clear K1 X1 Z1 T1
      have L2 := hide vwL
      clear b2 mL rL pL lgL lcL lmL vwL HL
      refine hK.out _ _ (flat _ X2.out) (fun hHeld2 => ?_)
      clear hK K hHeld
      have hHeld := hHeld2
      clear hHeld2
      simp only [List.setIfInBounds_toArray, List.set_cons_succ, List.set_cons_zero]
      refine wpAnyH_ready (rs := [10, 14]) (by kernel_rfl) (by simp) ?_
      refine AllReadyH.cons rfl (fun K hK => ?_) (AllReadyH.cons rfl (fun K hK => ?_) AllReadyH.nil)
      · go_simp
        have O := OwnG.made (tE := 3) (K := 1) (cs := ci) w2 N (by have := K2.out.size; omega)
        have b3 := (Below.refl w2.heap.size w2).alloc (Nat.le_refl _) (Obj.cells #[] 3)
        have q3 : w2.heap.size < (w2.alloc (Obj.cells #[] 3)).heap.size := by simp
        obtain ⟨w3, hw3⟩ : ∃ X, w2.alloc (Obj.cells #[] 3) = X := ⟨_, rfl⟩
        rw [hw3] at O b3 q3 ⊢
        clear hw3
        obtain ⟨gA, hgA⟩ : ∃ g, w2.heap.size = g := ⟨_, rfl⟩
        have lA1 : w2.heap.size ≤ gA := Nat.le_of_eq hgA
        have lA2 : gA ≤ w2.heap.size := Nat.le_of_eq hgA.symm
        rw [hgA] at O q3 ⊢
        have b3 : Below w2.heap.size w2 w3 := by rw [hgA]; rw [hgA] at b3; exact b3
        clear hgA
        have K3 := hide (K2.out.trans (b3.mono (by have := K2.out.size; omega)))
        have X3 := hide (X2.out.next b3)
        have Z3 := hide (Z2.out.next b3)
        have y3 := b3.size
        have T3 := hide (T2.out.next b3)
        have L3 := hide (L2.out.next b3)
        clear K2 X2 Z2 T2 L2
        have A3 := hide O
        clear b3 O
        refine hK.out _ _ (flat _ X3.out) (fun hHeld2 => ?_)
        clear hK K hHeld
        have hHeld := hHeld2
        clear hHeld2
        simp only [List.setIfInBounds_toArray, List.set_cons_succ, List.set_cons_zero]
        refine wpAnyH_ready (rs := [13, 14]) (by kernel_rfl) (by simp) ?_
        refine AllReadyH.cons rfl (fun K hK => ?_) (AllReadyH.cons rfl (fun K hK => ?_) AllReadyH.nil)
        · refine step_append_ints0 rfl _ _ rfl N gA (by first | rfl | (simp [Act.eval])) A3.out N da x.dr dc (by first | rfl | (simp [Act.eval])) (HD.out _ K3.out) HDn.out HDl.out (by have := K3.out.size; omega) ?_
          intro pD cD w4 O b4 hatD
          have sD : pD < w4.heap.size := (World.ownsRow.lt O pD rfl).2
          clear A3
          have K4 := hide (K3.out.trans (b4.mono (by have := K3.out.size; omega)))
          have X4 := hide (X3.out.next b4)
          have Z4 := hide (Z3.out.next b4)
          have y4 := b4.size
          have T4 := hide (T3.out.next b4)
          have L4 := hide (L3.out.next b4)
          clear K3 X3 Z3 T3 L3
          have D4 := hide O
          clear b4 O
          refine hK.out _ _ (flat _ X4.out) (fun hHeld2 => ?_)
          clear hK K hHeld
          have hHeld := hHeld2
          clear hHeld2
          simp only [List.setIfInBounds_toArray, List.set_cons_succ, List.set_cons_zero]
          refine wpAnyH_ready (rs := [14]) (by kernel_rfl) (by simp) ?_
          refine AllReadyH.cons rfl (fun K hK => ?_) AllReadyH.nil
          go_simp
          have O := OwnG.made (tE := 3) (K := 1) (cs := ci) w4 N (by have := K4.out.size; omega)
          have b5 := (Below.refl w4.heap.size w4).alloc (Nat.le_refl _) (Obj.cells #[] 3)
          have q5 : w4.heap.size < (w4.alloc (Obj.cells #[] 3)).heap.size := by simp
          obtain ⟨w5, hw5⟩ : ∃ X, w4.alloc (Obj.cells #[] 3) = X := ⟨_, rfl⟩
          rw [hw5] at O b5 q5 ⊢
          clear hw5
          obtain ⟨gB, hgB⟩ : ∃ g, w4.heap.size = g := ⟨_, rfl⟩
          have lB1 : w4.heap.size ≤ gB := Nat.le_of_eq hgB
          have lB2 : gB ≤ w4.heap.size := Nat.le_of_eq hgB.symm
          rw [hgB] at O q5 ⊢
          have b5 : Below w4.heap.size w4 w5 := by rw [hgB]; rw [hgB] at b5; exact b5
          clear hgB
          have K5 := hide (K4.out.trans (b5.mono (by have := K4.out.size; omega)))
          have X5 := hide (X4.out.next b5)
          have Z5 := hide (Z4.out.next b5)
          have y5 := b5.size
          have T5 := hide (T4.out.next b5)
          have L5 := hide (L4.out.next b5)
          have D5 := hide (D4.out.next b5)
          clear K4 X4 Z4 T4 L4 D4
          have B5 := hide O
          clear b5 O
          refine hK.out _ _ (flat _ X5.out) (fun hHeld2 => ?_)
          clear hK K hHeld
          have hHeld := hHeld2
          clear hHeld2
          simp only [List.setIfInBounds_toArray, List.set_cons_succ, List.set_cons_zero]
          refine wpAnyH_ready (rs := [17]) (by kernel_rfl) (by simp) ?_
          refine AllReadyH.cons rfl (fun K hK => ?_) AllReadyH.nil
          refine step_append_ints0 rfl _ _ rfl N gB (by first | rfl | (simp [Act.eval])) B5.out N ua x.us uc (by first | rfl | (simp [Act.eval])) (HU.out _ K5.out) HUn.out HUl.out (by have := K5.out.size; omega) ?_
          intro pU cU w6 O b6 hatU
          have sU : pU < w6.heap.size := (World.ownsRow.lt O pU rfl).2
          clear B5
          have K6 := hide (K5.out.trans (b6.mono (by have := K5.out.size; omega)))
          have X6 := hide (X5.out.next b6)
          have Z6 := hide (Z5.out.next b6)
          have y6 := b6.size
          have T6 := hide (T5.out.next b6)
          have L6 := hide (L5.out.next b6)
          have D6 := hide (D5.out.next b6)
          clear K5 X5 Z5 T5 L5 D5
          have U6 := hide O
          clear b6 O
          refine hK.out _ _ (flat _ X6.out) (fun hHeld2 => ?_)
          clear hK K hHeld
          have hHeld := hHeld2
          clear hHeld2
          simp only [List.setIfInBounds_toArray, List.set_cons_succ, List.set_cons_zero]
          refine wpAnyH_take (i := 18) (v := ?_) rfl (by kernel_rfl) (by kernel_rfl) (by kernel_rfl) (fun _ _ _ h => h) (Or.inl ⟨by rfl, ?_⟩) (by assumption) ?_
          rotate_left
          · intro w hSw; (try dsimp only at hSw); go_simp; try with_reducible rfl
          simp only [Act.put, List.getElem_toArray, List.getElem_cons_succ, List.getElem_cons_zero, List.setIfInBounds_toArray, List.set_cons_succ, List.set_cons_zero]
          refine wpAnyH_ready (rs := [19]) (by kernel_rfl) (by simp) ?_
          refine AllReadyH.cons rfl (fun K hK => ?_) AllReadyH.nil
          obtain ⟨d0, f0⟩ := Z6.out.2 0 _ rfl
          obtain ⟨d1, f1⟩ := Z6.out.2 1 _ rfl
          obtain ⟨d2, f2⟩ := Z6.out.2 2 _ rfl
          obtain ⟨d3, f3⟩ := Z6.out.2 3 _ rfl
          obtain ⟨d4, f4⟩ := Z6.out.2 4 _ rfl
          obtain ⟨d5, f5⟩ := Z6.out.2 5 _ rfl
          go_simp
          clear d0 f0 d1 f1 d2 f2 d3 f3 d4 f4 d5 f5
          have XE := hide ((((((X6.out.other ⟨N + 1, 0, none⟩ (.slice (some ⟨pT, 0, none⟩) x.t.length cT) (by show N + 1 ≠ N; omega)).other ⟨N + 1, 1, none⟩ (.slice (some ⟨gL, 0, none⟩) x.l.length cL) (by show N + 1 ≠ N; omega)).other ⟨N + 1, 2, none⟩ (.int .i64 x.now) (by show N + 1 ≠ N; omega)).other ⟨N + 1, 3, none⟩ (.int .i64 x.ver) (by show N + 1 ≠ N; omega)).other ⟨N + 1, 4, none⟩ (.slice (some ⟨pD, 0, none⟩) x.dr.length cD) (by show N + 1 ≠ N; omega)).other ⟨N + 1, 5, none⟩ (.slice (some ⟨pU, 0, none⟩) x.us.length cU) (by show N + 1 ≠ N; omega))
          have ZE := hide (show BoxV ((((((w6.setCell ⟨N + 1, 0, none⟩ (.slice (some ⟨pT, 0, none⟩) x.t.length cT)).setCell ⟨N + 1, 1, none⟩ (.slice (some ⟨gL, 0, none⟩) x.l.length cL)).setCell ⟨N + 1, 2, none⟩ (.int .i64 x.now)).setCell ⟨N + 1, 3, none⟩ (.int .i64 x.ver)).setCell ⟨N + 1, 4, none⟩ (.slice (some ⟨pD, 0, none⟩) x.dr.length cD)).setCell ⟨N + 1, 5, none⟩ (.slice (some ⟨pU, 0, none⟩) x.us.length cU)) (N + 1) [.slice (some ⟨pT, 0, none⟩) x.t.length cT, .slice (some ⟨gL, 0, none⟩) x.l.length cL, .int .i64 x.now, .int .i64 x.ver, .slice (some ⟨pD, 0, none⟩) x.dr.length cD, .slice (some ⟨pU, 0, none⟩) x.us.length cU] from ((((((Z6.out.set 0 (by simp) (.slice (some ⟨pT, 0, none⟩) x.t.length cT)).set 1 (by simp) (.slice (some ⟨gL, 0, none⟩) x.l.length cL)).set 2 (by simp) (.int .i64 x.now)).set 3 (by simp) (.int .i64 x.ver)).set 4 (by simp) (.slice (some ⟨pD, 0, none⟩) x.dr.length cD)).set 5 (by simp) (.slice (some ⟨pU, 0, none⟩) x.us.length cU)))
          have KE := hide ((((((K6.out.setCell (p := ⟨N + 1, 0, none⟩) (by show N ≤ N + 1; omega) (.slice (some ⟨pT, 0, none⟩) x.t.length cT)).setCell (p := ⟨N + 1, 1, none⟩) (by show N ≤ N + 1; omega) (.slice (some ⟨gL, 0, none⟩) x.l.length cL)).setCell (p := ⟨N + 1, 2, none⟩) (by show N ≤ N + 1; omega) (.int .i64 x.now)).setCell (p := ⟨N + 1, 3, none⟩) (by show N ≤ N + 1; omega) (.int .i64 x.ver)).setCell (p := ⟨N + 1, 4, none⟩) (by show N ≤ N + 1; omega) (.slice (some ⟨pD, 0, none⟩) x.dr.length cD)).setCell (p := ⟨N + 1, 5, none⟩) (by show N ≤ N + 1; omega) (.slice (some ⟨pU, 0, none⟩) x.us.length cU))
          have TE := hide ((((((T6.out.setCell ⟨N + 1, 0, none⟩ (.slice (some ⟨pT, 0, none⟩) x.t.length cT) (.inl (by show N + 1 < _; omega))).setCell ⟨N + 1, 1, none⟩ (.slice (some ⟨gL, 0, none⟩) x.l.length cL) (.inl (by show N + 1 < _; omega))).setCell ⟨N + 1, 2, none⟩ (.int .i64 x.now) (.inl (by show N + 1 < _; omega))).setCell ⟨N + 1, 3, none⟩ (.int .i64 x.ver) (.inl (by show N + 1 < _; omega))).setCell ⟨N + 1, 4, none⟩ (.slice (some ⟨pD, 0, none⟩) x.dr.length cD) (.inl (by show N + 1 < _; omega))).setCell ⟨N + 1, 5, none⟩ (.slice (some ⟨pU, 0, none⟩) x.us.length cU) (.inl (by show N + 1 < _; omega)))
          have LE := hide ((((((L6.out.setCell ⟨N + 1, 0, none⟩ (.slice (some ⟨pT, 0, none⟩) x.t.length cT) (.inl (by show N + 1 < _; omega))).setCell ⟨N + 1, 1, none⟩ (.slice (some ⟨gL, 0, none⟩) x.l.length cL) (.inl (by show N + 1 < _; omega))).setCell ⟨N + 1, 2, none⟩ (.int .i64 x.now) (.inl (by show N + 1 < _; omega))).setCell ⟨N + 1, 3, none⟩ (.int .i64 x.ver) (.inl (by show N + 1 < _; omega))).setCell ⟨N + 1, 4, none⟩ (.slice (some ⟨pD, 0, none⟩) x.dr.length cD) (.inl (by show N + 1 < _; omega))).setCell ⟨N + 1, 5, none⟩ (.slice (some ⟨pU, 0, none⟩) x.us.length cU) (.inl (by show N + 1 < _; omega)))
          have DE := hide ((((((D6.out.keepB (Below.heap_setCell _ ⟨N + 1, 0, none⟩ (.slice (some ⟨pT, 0, none⟩) x.t.length cT) _ (by show pD ≠ N + 1; omega))).keepB (Below.heap_setCell _ ⟨N + 1, 1, none⟩ (.slice (some ⟨gL, 0, none⟩) x.l.length cL) _ (by show pD ≠ N + 1; omega))).keepB (Below.heap_setCell _ ⟨N + 1, 2, none⟩ (.int .i64 x.now) _ (by show pD ≠ N + 1; omega))).keepB (Below.heap_setCell _ ⟨N + 1, 3, none⟩ (.int .i64 x.ver) _ (by show pD ≠ N + 1; omega))).keepB (Below.heap_setCell _ ⟨N + 1, 4, none⟩ (.slice (some ⟨pD, 0, none⟩) x.dr.length cD) _ (by show pD ≠ N + 1; omega))).keepB (Below.heap_setCell _ ⟨N + 1, 5, none⟩ (.slice (some ⟨pU, 0, none⟩) x.us.length cU) _ (by show pD ≠ N + 1; omega)))
          have UE := hide ((((((U6.out.keepB (Below.heap_setCell _ ⟨N + 1, 0, none⟩ (.slice (some ⟨pT, 0, none⟩) x.t.length cT) _ (by show pU ≠ N + 1; omega))).keepB (Below.heap_setCell _ ⟨N + 1, 1, none⟩ (.slice (some ⟨gL, 0, none⟩) x.l.length cL) _ (by show pU ≠ N + 1; omega))).keepB (Below.heap_setCell _ ⟨N + 1, 2, none⟩ (.int .i64 x.now) _ (by show pU ≠ N + 1; omega))).keepB (Below.heap_setCell _ ⟨N + 1, 3, none⟩ (.int .i64 x.ver) _ (by show pU ≠ N + 1; omega))).keepB (Below.heap_setCell _ ⟨N + 1, 4, none⟩ (.slice (some ⟨pD, 0, none⟩) x.dr.length cD) _ (by show pU ≠ N + 1; omega))).keepB (Below.heap_setCell _ ⟨N + 1, 5, none⟩ (.slice (some ⟨pU, 0, none⟩) x.us.length cU) _ (by show pU ≠ N + 1; omega)))
          refine hK.out _ _ (flat _ XE.out) (fun hHeld2 => ?_)
          clear hK K hHeld
          have hHeld := hHeld2
          clear hHeld2
          simp only [List.setIfInBounds_toArray, List.set_cons_succ, List.set_cons_zero]
          refine wpAnyH_done (by kernel_rfl) ?_ _
          clear hHeld
          have r0 := (ZE.out.2 0 _ rfl).1
          have r1 := (ZE.out.2 1 _ rfl).1
          have r2 := (ZE.out.2 2 _ rfl).1
          have r3 := (ZE.out.2 3 _ rfl).1
          have r4 := (ZE.out.2 4 _ rfl).1
          have r5 := (ZE.out.2 5 _ rfl).1
          go_wp2
          refine bodyPost_ret (v := .agg #[.slice (some ⟨pT, 0, none⟩) x.t.length cT, .slice (some ⟨gL, 0, none⟩) x.l.length cL, .int .i64 x.now, .int .i64 x.ver, .slice (some ⟨pD, 0, none⟩) x.dr.length cD, .slice (some ⟨pU, 0, none⟩) x.us.length cU]) (by simp [results, Tryz.results37, go_sem, r0, r1, r2, r3, r4, r5]) rfl ⟨⟨pT, cT, gL, cL, pD, cD, pU, cU, _, _, _, _, rfl, TE.out, LE.out, DE.out.low hN2, UE.out.low hN2, ?_, ?_, ?_, ?_, ?_, ?_, ?_, ?_⟩, KE.out.mono hN2⟩
          all_goals omega
        · go_simp
          have O := OwnG.made (tE := 3) (K := 1) (cs := ci) w3 N (by have := K3.out.size; omega)
          have b4 := (Below.refl w3.heap.size w3).alloc (Nat.le_refl _) (Obj.cells #[] 3)
          have q4 : w3.heap.size < (w3.alloc (Obj.cells #[] 3)).heap.size := by simp
          obtain ⟨w4, hw4⟩ : ∃ X, w3.alloc (Obj.cells #[] 3) = X := ⟨_, rfl⟩
          rw [hw4] at O b4 q4 ⊢
          clear hw4
          obtain ⟨gB, hgB⟩ : ∃ g, w3.heap.size = g := ⟨_, rfl⟩
          have lB1 : w3.heap.size ≤ gB := Nat.le_of_eq hgB
          have lB2 : gB ≤ w3.heap.size := Nat.le_of_eq hgB.symm
          rw [hgB] at O q4 ⊢
          have b4 : Below w3.heap.size w3 w4 := by rw [hgB]; rw [hgB] at b4; exact b4
          clear hgB
          have K4 := hide (K3.out.trans (b4.mono (by have := K3.out.size; omega)))
          have X4 := hide (X3.out.next b4)
          have Z4 := hide (Z3.out.next b4)
          have y4 := b4.size
          have T4 := hide (T3.out.next b4)
          have L4 := hide (L3.out.next b4)
          have A4 := hide (A3.out.next b4)
          clear K3 X3 Z3 T3 L3 A3
          have B4 := hide O
          clear b4 O
          refine hK.out _ _ (flat _ X4.out) (fun hHeld2 => ?_)
          clear hK K hHeld
          have hHeld := hHeld2
          clear hHeld2
          simp only [List.setIfInBounds_toArray, List.set_cons_succ, List.set_cons_zero]
          refine wpAnyH_ready (rs := [13]) (by kernel_rfl) (by simp) ?_
          refine AllReadyH.cons rfl (fun K hK => ?_) AllReadyH.nil
          refine step_append_ints0 rfl _ _ rfl N gA (by first | rfl | (simp [Act.eval])) A4.out N da x.dr dc (by first | rfl | (simp [Act.eval])) (HD.out _ K4.out) HDn.out HDl.out (by have := K4.out.size; omega) ?_
          intro pD cD w5 O b5 hatD
          have sD : pD < w5.heap.size := (World.ownsRow.lt O pD rfl).2
          clear A4
          have K5 := hide (K4.out.trans (b5.mono (by have := K4.out.size; omega)))
          have X5 := hide (X4.out.next b5)
          have Z5 := hide (Z4.out.next b5)
          have y5 := b5.size
          have T5 := hide (T4.out.next b5)
          have L5 := hide (L4.out.next b5)
          have B5 := hide (B4.out.next b5)
          clear K4 X4 Z4 T4 L4 B4
          have D5 := hide O
          clear b5 O
          refine hK.out _ _ (flat _ X5.out) (fun hHeld2 => ?_)
          clear hK K hHeld
          have hHeld := hHeld2
          clear hHeld2
          simp only [List.setIfInBounds_toArray, List.set_cons_succ, List.set_cons_zero]
          refine wpAnyH_ready (rs := [17]) (by kernel_rfl) (by simp) ?_
          refine AllReadyH.cons rfl (fun K hK => ?_) AllReadyH.nil
          refine step_append_ints0 rfl _ _ rfl N gB (by first | rfl | (simp [Act.eval])) B5.out N ua x.us uc (by first | rfl | (simp [Act.eval])) (HU.out _ K5.out) HUn.out HUl.out (by have := K5.out.size; omega) ?_
          intro pU cU w6 O b6 hatU
          have sU : pU < w6.heap.size := (World.ownsRow.lt O pU rfl).2
          clear B5
          have K6 := hide (K5.out.trans (b6.mono (by have := K5.out.size; omega)))
          have X6 := hide (X5.out.next b6)
          have Z6 := hide (Z5.out.next b6)
          have y6 := b6.size
          have T6 := hide (T5.out.next b6)
          have L6 := hide (L5.out.next b6)
          have D6 := hide (D5.out.next b6)
          clear K5 X5 Z5 T5 L5 D5
          have U6 := hide O
          clear b6 O
          refine hK.out _ _ (flat _ X6.out) (fun hHeld2 => ?_)
          clear hK K hHeld
          have hHeld := hHeld2
          clear hHeld2
          simp only [List.setIfInBounds_toArray, List.set_cons_succ, List.set_cons_zero]
          refine wpAnyH_take (i := 18) (v := ?_) rfl (by kernel_rfl) (by kernel_rfl) (by kernel_rfl) (fun _ _ _ h => h) (Or.inl ⟨by rfl, ?_⟩) (by assumption) ?_
          rotate_left
          · intro w hSw; (try dsimp only at hSw); go_simp; try with_reducible rfl
          simp only [Act.put, List.getElem_toArray, List.getElem_cons_succ, List.getElem_cons_zero, List.setIfInBounds_toArray, List.set_cons_succ, List.set_cons_zero]
          refine wpAnyH_ready (rs := [19]) (by kernel_rfl) (by simp) ?_
          refine AllReadyH.cons rfl (fun K hK => ?_) AllReadyH.nil
          obtain ⟨d0, f0⟩ := Z6.out.2 0 _ rfl
          obtain ⟨d1, f1⟩ := Z6.out.2 1 _ rfl
          obtain ⟨d2, f2⟩ := Z6.out.2 2 _ rfl
          obtain ⟨d3, f3⟩ := Z6.out.2 3 _ rfl
          obtain ⟨d4, f4⟩ := Z6.out.2 4 _ rfl
          obtain ⟨d5, f5⟩ := Z6.out.2 5 _ rfl
          go_simp
          clear d0 f0 d1 f1 d2 f2 d3 f3 d4 f4 d5 f5
          have XE := hide ((((((X6.out.other ⟨N + 1, 0, none⟩ (.slice (some ⟨pT, 0, none⟩) x.t.length cT) (by show N + 1 ≠ N; omega)).other ⟨N + 1, 1, none⟩ (.slice (some ⟨gL, 0, none⟩) x.l.length cL) (by show N + 1 ≠ N; omega)).other ⟨N + 1, 2, none⟩ (.int .i64 x.now) (by show N + 1 ≠ N; omega)).other ⟨N + 1, 3, none⟩ (.int .i64 x.ver) (by show N + 1 ≠ N; omega)).other ⟨N + 1, 4, none⟩ (.slice (some ⟨pD, 0, none⟩) x.dr.length cD) (by show N + 1 ≠ N; omega)).other ⟨N + 1, 5, none⟩ (.slice (some ⟨pU, 0, none⟩) x.us.length cU) (by show N + 1 ≠ N; omega))
          have ZE := hide (show BoxV ((((((w6.setCell ⟨N + 1, 0, none⟩ (.slice (some ⟨pT, 0, none⟩) x.t.length cT)).setCell ⟨N + 1, 1, none⟩ (.slice (some ⟨gL, 0, none⟩) x.l.length cL)).setCell ⟨N + 1, 2, none⟩ (.int .i64 x.now)).setCell ⟨N + 1, 3, none⟩ (.int .i64 x.ver)).setCell ⟨N + 1, 4, none⟩ (.slice (some ⟨pD, 0, none⟩) x.dr.length cD)).setCell ⟨N + 1, 5, none⟩ (.slice (some ⟨pU, 0, none⟩) x.us.length cU)) (N + 1) [.slice (some ⟨pT, 0, none⟩) x.t.length cT, .slice (some ⟨gL, 0, none⟩) x.l.length cL, .int .i64 x.now, .int .i64 x.ver, .slice (some ⟨pD, 0, none⟩) x.dr.length cD, .slice (some ⟨pU, 0, none⟩) x.us.length cU] from ((((((Z6.out.set 0 (by simp) (.slice (some ⟨pT, 0, none⟩) x.t.length cT)).set 1 (by simp) (.slice (some ⟨gL, 0, none⟩) x.l.length cL)).set 2 (by simp) (.int .i64 x.now)).set 3 (by simp) (.int .i64 x.ver)).set 4 (by simp) (.slice (some ⟨pD, 0, none⟩) x.dr.length cD)).set 5 (by simp) (.slice (some ⟨pU, 0, none⟩) x.us.length cU)))
          have KE := hide ((((((K6.out.setCell (p := ⟨N + 1, 0, none⟩) (by show N ≤ N + 1; omega) (.slice (some ⟨pT, 0, none⟩) x.t.length cT)).setCell (p := ⟨N + 1, 1, none⟩) (by show N ≤ N + 1; omega) (.slice (some ⟨gL, 0, none⟩) x.l.length cL)).setCell (p := ⟨N + 1, 2, none⟩) (by show N ≤ N + 1; omega) (.int .i64 x.now)).setCell (p := ⟨N + 1, 3, none⟩) (by show N ≤ N + 1; omega) (.int .i64 x.ver)).setCell (p := ⟨N + 1, 4, none⟩) (by show N ≤ N + 1; omega) (.slice (some ⟨pD, 0, none⟩) x.dr.length cD)).setCell (p := ⟨N + 1, 5, none⟩) (by show N ≤ N + 1; omega) (.slice (some ⟨pU, 0, none⟩) x.us.length cU))
          have TE := hide ((((((T6.out.setCell ⟨N + 1, 0, none⟩ (.slice (some ⟨pT, 0, none⟩) x.t.length cT) (.inl (by show N + 1 < _; omega))).setCell ⟨N + 1, 1, none⟩ (.slice (some ⟨gL, 0, none⟩) x.l.length cL) (.inl (by show N + 1 < _; omega))).setCell ⟨N + 1, 2, none⟩ (.int .i64 x.now) (.inl (by show N + 1 < _; omega))).setCell ⟨N + 1, 3, none⟩ (.int .i64 x.ver) (.inl (by show N + 1 < _; omega))).setCell ⟨N + 1, 4, none⟩ (.slice (some ⟨pD, 0, none⟩) x.dr.length cD) (.inl (by show N + 1 < _; omega))).setCell ⟨N + 1, 5, none⟩ (.slice (some ⟨pU, 0, none⟩) x.us.length cU) (.inl (by show N + 1 < _; omega)))
          have LE := hide ((((((L6.out.setCell ⟨N + 1, 0, none⟩ (.slice (some ⟨pT, 0, none⟩) x.t.length cT) (.inl (by show N + 1 < _; omega))).setCell ⟨N + 1, 1, none⟩ (.slice (some ⟨gL, 0, none⟩) x.l.length cL) (.inl (by show N + 1 < _; omega))).setCell ⟨N + 1, 2, none⟩ (.int .i64 x.now) (.inl (by show N + 1 < _; omega))).setCell ⟨N + 1, 3, none⟩ (.int .i64 x.ver) (.inl (by show N + 1 < _; omega))).setCell ⟨N + 1, 4, none⟩ (.slice (some ⟨pD, 0, none⟩) x.dr.length cD) (.inl (by show N + 1 < _; omega))).setCell ⟨N + 1, 5, none⟩ (.slice (some ⟨pU, 0, none⟩) x.us.length cU) (.inl (by show N + 1 < _; omega)))
          have DE := hide ((((((D6.out.keepB (Below.heap_setCell _ ⟨N + 1, 0, none⟩ (.slice (some ⟨pT, 0, none⟩) x.t.length cT) _ (by show pD ≠ N + 1; omega))).keepB (Below.heap_setCell _ ⟨N + 1, 1, none⟩ (.slice (some ⟨gL, 0, none⟩) x.l.length cL) _ (by show pD ≠ N + 1; omega))).keepB (Below.heap_setCell _ ⟨N + 1, 2, none⟩ (.int .i64 x.now) _ (by show pD ≠ N + 1; omega))).keepB (Below.heap_setCell _ ⟨N + 1, 3, none⟩ (.int .i64 x.ver) _ (by show pD ≠ N + 1; omega))).keepB (Below.heap_setCell _ ⟨N + 1, 4, none⟩ (.slice (some ⟨pD, 0, none⟩) x.dr.length cD) _ (by show pD ≠ N + 1; omega))).keepB (Below.heap_setCell _ ⟨N + 1, 5, none⟩ (.slice (some ⟨pU, 0, none⟩) x.us.length cU) _ (by show pD ≠ N + 1; omega)))
          have UE := hide ((((((U6.out.keepB (Below.heap_setCell _ ⟨N + 1, 0, none⟩ (.slice (some ⟨pT, 0, none⟩) x.t.length cT) _ (by show pU ≠ N + 1; omega))).keepB (Below.heap_setCell _ ⟨N + 1, 1, none⟩ (.slice (some ⟨gL, 0, none⟩) x.l.length cL) _ (by show pU ≠ N + 1; omega))).keepB (Below.heap_setCell _ ⟨N + 1, 2, none⟩ (.int .i64 x.now) _ (by show pU ≠ N + 1; omega))).keepB (Below.heap_setCell _ ⟨N + 1, 3, none⟩ (.int .i64 x.ver) _ (by show pU ≠ N + 1; omega))).keepB (Below.heap_setCell _ ⟨N + 1, 4, none⟩ (.slice (some ⟨pD, 0, none⟩) x.dr.length cD) _ (by show pU ≠ N + 1; omega))).keepB (Below.heap_setCell _ ⟨N + 1, 5, none⟩ (.slice (some ⟨pU, 0, none⟩) x.us.length cU) _ (by show pU ≠ N + 1; omega)))
          refine hK.out _ _ (flat _ XE.out) (fun hHeld2 => ?_)
          clear hK K hHeld
          have hHeld := hHeld2
          clear hHeld2
          simp only [List.setIfInBounds_toArray, List.set_cons_succ, List.set_cons_zero]
          refine wpAnyH_done (by kernel_rfl) ?_ _
          clear hHeld
          have r0 := (ZE.out.2 0 _ rfl).1
          have r1 := (ZE.out.2 1 _ rfl).1
          have r2 := (ZE.out.2 2 _ rfl).1
          have r3 := (ZE.out.2 3 _ rfl).1
          have r4 := (ZE.out.2 4 _ rfl).1
          have r5 := (ZE.out.2 5 _ rfl).1
          go_wp2
          refine bodyPost_ret (v := .agg #[.slice (some ⟨pT, 0, none⟩) x.t.length cT, .slice (some ⟨gL, 0, none⟩) x.l.length cL, .int .i64 x.now, .int .i64 x.ver, .slice (some ⟨pD, 0, none⟩) x.dr.length cD, .slice (some ⟨pU, 0, none⟩) x.us.length cU]) (by simp [results, Tryz.results37, go_sem, r0, r1, r2, r3, r4, r5]) rfl ⟨⟨pT, cT, gL, cL, pD, cD, pU, cU, _, _, _, _, rfl, TE.out, LE.out, DE.out.low hN2, UE.out.low hN2, ?_, ?_, ?_, ?_, ?_, ?_, ?_, ?_⟩, KE.out.mono hN2⟩
          all_goals omega
      · go_simp
        have O := OwnG.made (tE := 3) (K := 1) (cs := ci) w2 N (by have := K2.out.size; omega)
        have b3 := (Below.refl w2.heap.size w2).alloc (Nat.le_refl _) (Obj.cells #[] 3)
        have q3 : w2.heap.size < (w2.alloc (Obj.cells #[] 3)).heap.size := by simp
        obtain ⟨w3, hw3⟩ : ∃ X, w2.alloc (Obj.cells #[] 3) = X := ⟨_, rfl⟩
        rw [hw3] at O b3 q3 ⊢
        clear hw3
        obtain ⟨gB, hgB⟩ : ∃ g, w2.heap.size = g := ⟨_, rfl⟩
        have lB1 : w2.heap.size ≤ gB := Nat.le_of_eq hgB
        have lB2 : gB ≤ w2.heap.size := Nat.le_of_eq hgB.symm
        rw [hgB] at O q3 ⊢
        have b3 : Below w2.heap.size w2 w3 := by rw [hgB]; rw [hgB] at b3; exact b3
        clear hgB
        have K3 := hide (K2.out.trans (b3.mono (by have := K2.out.size; omega)))
        have X3 := hide (X2.out.next b3)
        have Z3 := hide (Z2.out.next b3)
        have y3 := b3.size
        have T3 := hide (T2.out.next b3)
        have L3 := hide (L2.out.next b3)
        clear K2 X2 Z2 T2 L2
        have B3 := hide O
        clear b3 O
        refine hK.out _ _ (flat _ X3.out) (fun hHeld2 => ?_)
        clear hK K hHeld
        have hHeld := hHeld2
        clear hHeld2
        simp only [List.setIfInBounds_toArray, List.set_cons_succ, List.set_cons_zero]
        refine wpAnyH_ready (rs := [10]) (by kernel_rfl) (by simp) ?_
        refine AllReadyH.cons rfl (fun K hK => ?_) AllReadyH.nil
        go_simp
        have O := OwnG.made (tE := 3) (K := 1) (cs := ci) w3 N (by have := K3.out.size; omega)
        have b4 := (Below.refl w3.heap.size w3).alloc (Nat.le_refl _) (Obj.cells #[] 3)
        have q4 : w3.heap.size < (w3.alloc (Obj.cells #[] 3)).heap.size := by simp
        obtain ⟨w4, hw4⟩ : ∃ X, w3.alloc (Obj.cells #[] 3) = X := ⟨_, rfl⟩
        rw [hw4] at O b4 q4 ⊢
        clear hw4
        obtain ⟨gA, hgA⟩ : ∃ g, w3.heap.size = g := ⟨_, rfl⟩
        have lA1 : w3.heap.size ≤ gA := Nat.le_of_eq hgA
        have lA2 : gA ≤ w3.heap.size := Nat.le_of_eq hgA.symm
        rw [hgA] at O q4 ⊢
        have b4 : Below w3.heap.size w3 w4 := by rw [hgA]; rw [hgA] at b4; exact b4
        clear hgA
        have K4 := hide (K3.out.trans (b4.mono (by have := K3.out.size; omega)))
        have X4 := hide (X3.out.next b4)
        have Z4 := hide (Z3.out.next b4)
        have y4 := b4.size
        have T4 := hide (T3.out.next b4)
        have L4 := hide (L3.out.next b4)
        have B4 := hide (B3.out.next b4)
        clear K3 X3 Z3 T3 L3 B3
        have A4 := hide O
        clear b4 O
        refine hK.out _ _ (flat _ X4.out) (fun hHeld2 => ?_)
        clear hK K hHeld
        have hHeld := hHeld2
        clear hHeld2
        simp only [List.setIfInBounds_toArray, List.set_cons_succ, List.set_cons_zero]
        refine wpAnyH_ready (rs := [13]) (by kernel_rfl) (by simp) ?_
        refine AllReadyH.cons rfl (fun K hK => ?_) AllReadyH.nil
        refine step_append_ints0 rfl _ _ rfl N gA (by first | rfl | (simp [Act.eval])) A4.out N da x.dr dc (by first | rfl | (simp [Act.eval])) (HD.out _ K4.out) HDn.out HDl.out (by have := K4.out.size; omega) ?_
        intro pD cD w5 O b5 hatD
        have sD : pD < w5.heap.size := (World.ownsRow.lt O pD rfl).2
        clear A4
        have K5 := hide (K4.out.trans (b5.mono (by have := K4.out.size; omega)))
        have X5 := hide (X4.out.next b5)
        have Z5 := hide (Z4.out.next b5)
        have y5 := b5.size
        have T5 := hide (T4.out.next b5)
        have L5 := hide (L4.out.next b5)
        have B5 := hide (B4.out.next b5)
        clear K4 X4 Z4 T4 L4 B4
        have D5 := hide O
        clear b5 O
        refine hK.out _ _ (flat _ X5.out) (fun hHeld2 => ?_)
        clear hK K hHeld
        have hHeld := hHeld2
        clear hHeld2
        simp only [List.setIfInBounds_toArray, List.set_cons_succ, List.set_cons_zero]
        refine wpAnyH_ready (rs := [17]) (by kernel_rfl) (by simp) ?_
        refine AllReadyH.cons rfl (fun K hK => ?_) AllReadyH.nil
        refine step_append_ints0 rfl _ _ rfl N gB (by first | rfl | (simp [Act.eval])) B5.out N ua x.us uc (by first | rfl | (simp [Act.eval])) (HU.out _ K5.out) HUn.out HUl.out (by have := K5.out.size; omega) ?_
        intro pU cU w6 O b6 hatU
        have sU : pU < w6.heap.size := (World.ownsRow.lt O pU rfl).2
        clear B5
        have K6 := hide (K5.out.trans (b6.mono (by have := K5.out.size; omega)))
        have X6 := hide (X5.out.next b6)
        have Z6 := hide (Z5.out.next b6)
        have y6 := b6.size
        have T6 := hide (T5.out.next b6)
        have L6 := hide (L5.out.next b6)
        have D6 := hide (D5.out.next b6)
        clear K5 X5 Z5 T5 L5 D5
        have U6 := hide O
        clear b6 O
        refine hK.out _ _ (flat _ X6.out) (fun hHeld2 => ?_)
        clear hK K hHeld
        have hHeld := hHeld2
        clear hHeld2
        simp only [List.setIfInBounds_toArray, List.set_cons_succ, List.set_cons_zero]
        refine wpAnyH_take (i := 18) (v := ?_) rfl (by kernel_rfl) (by kernel_rfl) (by kernel_rfl) (fun _ _ _ h => h) (Or.inl ⟨by rfl, ?_⟩) (by assumption) ?_
        rotate_left
        · intro w hSw; (try dsimp only at hSw); go_simp; try with_reducible rfl
        simp only [Act.put, List.getElem_toArray, List.getElem_cons_succ, List.getElem_cons_zero, List.setIfInBounds_toArray, List.set_cons_succ, List.set_cons_zero]
        refine wpAnyH_ready (rs := [19]) (by kernel_rfl) (by simp) ?_
        refine AllReadyH.cons rfl (fun K hK => ?_) AllReadyH.nil
        obtain ⟨d0, f0⟩ := Z6.out.2 0 _ rfl
        obtain ⟨d1, f1⟩ := Z6.out.2 1 _ rfl
        obtain ⟨d2, f2⟩ := Z6.out.2 2 _ rfl
        obtain ⟨d3, f3⟩ := Z6.out.2 3 _ rfl
        obtain ⟨d4, f4⟩ := Z6.out.2 4 _ rfl
        obtain ⟨d5, f5⟩ := Z6.out.2 5 _ rfl
        go_simp
        clear d0 f0 d1 f1 d2 f2 d3 f3 d4 f4 d5 f5
        have XE := hide ((((((X6.out.other ⟨N + 1, 0, none⟩ (.slice (some ⟨pT, 0, none⟩) x.t.length cT) (by show N + 1 ≠ N; omega)).other ⟨N + 1, 1, none⟩ (.slice (some ⟨gL, 0, none⟩) x.l.length cL) (by show N + 1 ≠ N; omega)).other ⟨N + 1, 2, none⟩ (.int .i64 x.now) (by show N + 1 ≠ N; omega)).other ⟨N + 1, 3, none⟩ (.int .i64 x.ver) (by show N + 1 ≠ N; omega)).other ⟨N + 1, 4, none⟩ (.slice (some ⟨pD, 0, none⟩) x.dr.length cD) (by show N + 1 ≠ N; omega)).other ⟨N + 1, 5, none⟩ (.slice (some ⟨pU, 0, none⟩) x.us.length cU) (by show N + 1 ≠ N; omega))
        have ZE := hide (show BoxV ((((((w6.setCell ⟨N + 1, 0, none⟩ (.slice (some ⟨pT, 0, none⟩) x.t.length cT)).setCell ⟨N + 1, 1, none⟩ (.slice (some ⟨gL, 0, none⟩) x.l.length cL)).setCell ⟨N + 1, 2, none⟩ (.int .i64 x.now)).setCell ⟨N + 1, 3, none⟩ (.int .i64 x.ver)).setCell ⟨N + 1, 4, none⟩ (.slice (some ⟨pD, 0, none⟩) x.dr.length cD)).setCell ⟨N + 1, 5, none⟩ (.slice (some ⟨pU, 0, none⟩) x.us.length cU)) (N + 1) [.slice (some ⟨pT, 0, none⟩) x.t.length cT, .slice (some ⟨gL, 0, none⟩) x.l.length cL, .int .i64 x.now, .int .i64 x.ver, .slice (some ⟨pD, 0, none⟩) x.dr.length cD, .slice (some ⟨pU, 0, none⟩) x.us.length cU] from ((((((Z6.out.set 0 (by simp) (.slice (some ⟨pT, 0, none⟩) x.t.length cT)).set 1 (by simp) (.slice (some ⟨gL, 0, none⟩) x.l.length cL)).set 2 (by simp) (.int .i64 x.now)).set 3 (by simp) (.int .i64 x.ver)).set 4 (by simp) (.slice (some ⟨pD, 0, none⟩) x.dr.length cD)).set 5 (by simp) (.slice (some ⟨pU, 0, none⟩) x.us.length cU)))
        have KE := hide ((((((K6.out.setCell (p := ⟨N + 1, 0, none⟩) (by show N ≤ N + 1; omega) (.slice (some ⟨pT, 0, none⟩) x.t.length cT)).setCell (p := ⟨N + 1, 1, none⟩) (by show N ≤ N + 1; omega) (.slice (some ⟨gL, 0, none⟩) x.l.length cL)).setCell (p := ⟨N + 1, 2, none⟩) (by show N ≤ N + 1; omega) (.int .i64 x.now)).setCell (p := ⟨N + 1, 3, none⟩) (by show N ≤ N + 1; omega) (.int .i64 x.ver)).setCell (p := ⟨N + 1, 4, none⟩) (by show N ≤ N + 1; omega) (.slice (some ⟨pD, 0, none⟩) x.dr.length cD)).setCell (p := ⟨N + 1, 5, none⟩) (by show N ≤ N + 1; omega) (.slice (some ⟨pU, 0, none⟩) x.us.length cU))
        have TE := hide ((((((T6.out.setCell ⟨N + 1, 0, none⟩ (.slice (some ⟨pT, 0, none⟩) x.t.length cT) (.inl (by show N + 1 < _; omega))).setCell ⟨N + 1, 1, none⟩ (.slice (some ⟨gL, 0, none⟩) x.l.length cL) (.inl (by show N + 1 < _; omega))).setCell ⟨N + 1, 2, none⟩ (.int .i64 x.now) (.inl (by show N + 1 < _; omega))).setCell ⟨N + 1, 3, none⟩ (.int .i64 x.ver) (.inl (by show N + 1 < _; omega))).setCell ⟨N + 1, 4, none⟩ (.slice (some ⟨pD, 0, none⟩) x.dr.length cD) (.inl (by show N + 1 < _; omega))).setCell ⟨N + 1, 5, none⟩ (.slice (some ⟨pU, 0, none⟩) x.us.length cU) (.inl (by show N + 1 < _; omega)))
        have LE := hide ((((((L6.out.setCell ⟨N + 1, 0, none⟩ (.slice (some ⟨pT, 0, none⟩) x.t.length cT) (.inl (by show N + 1 < _; omega))).setCell ⟨N + 1, 1, none⟩ (.slice (some ⟨gL, 0, none⟩) x.l.length cL) (.inl (by show N + 1 < _; omega))).setCell ⟨N + 1, 2, none⟩ (.int .i64 x.now) (.inl (by show N + 1 < _; omega))).setCell ⟨N + 1, 3, none⟩ (.int .i64 x.ver) (.inl (by show N + 1 < _; omega))).setCell ⟨N + 1, 4, none⟩ (.slice (some ⟨pD, 0, none⟩) x.dr.length cD) (.inl (by show N + 1 < _; omega))).setCell ⟨N + 1, 5, none⟩ (.slice (some ⟨pU, 0, none⟩) x.us.length cU) (.inl (by show N + 1 < _; omega)))
        have DE := hide ((((((D6.out.keepB (Below.heap_setCell _ ⟨N + 1, 0, none⟩ (.slice (some ⟨pT, 0, none⟩) x.t.length cT) _ (by show pD ≠ N + 1; omega))).keepB (Below.heap_setCell _ ⟨N + 1, 1, none⟩ (.slice (some ⟨gL, 0, none⟩) x.l.length cL) _ (by show pD ≠ N + 1; omega))).keepB (Below.heap_setCell _ ⟨N + 1, 2, none⟩ (.int .i64 x.now) _ (by show pD ≠ N + 1; omega))).keepB (Below.heap_setCell _ ⟨N + 1, 3, none⟩ (.int .i64 x.ver) _ (by show pD ≠ N + 1; omega))).keepB (Below.heap_setCell _ ⟨N + 1, 4, none⟩ (.slice (some ⟨pD, 0, none⟩) x.dr.length cD) _ (by show pD ≠ N + 1; omega))).keepB (Below.heap_setCell _ ⟨N + 1, 5, none⟩ (.slice (some ⟨pU, 0, none⟩) x.us.length cU) _ (by show pD ≠ N + 1; omega)))
        have UE := hide ((((((U6.out.keepB (Below.heap_setCell _ ⟨N + 1, 0, none⟩ (.slice (some ⟨pT, 0, none⟩) x.t.length cT) _ (by show pU ≠ N + 1; omega))).keepB (Below.heap_setCell _ ⟨N + 1, 1, none⟩ (.slice (some ⟨gL, 0, none⟩) x.l.length cL) _ (by show pU ≠ N + 1; omega))).keepB (Below.heap_setCell _ ⟨N + 1, 2, none⟩ (.int .i64 x.now) _ (by show pU ≠ N + 1; omega))).keepB (Below.heap_setCell _ ⟨N + 1, 3, none⟩ (.int .i64 x.ver) _ (by show pU ≠ N + 1; omega))).keepB (Below.heap_setCell _ ⟨N + 1, 4, none⟩ (.slice (some ⟨pD, 0, none⟩) x.dr.length cD) _ (by show pU ≠ N + 1; omega))).keepB (Below.heap_setCell _ ⟨N + 1, 5, none⟩ (.slice (some ⟨pU, 0, none⟩) x.us.length cU) _ (by show pU ≠ N + 1; omega)))
        refine hK.out _ _ (flat _ XE.out) (fun hHeld2 => ?_)
        clear hK K hHeld
        have hHeld := hHeld2
        clear hHeld2
        simp only [List.setIfInBounds_toArray, List.set_cons_succ, List.set_cons_zero]
        refine wpAnyH_done (by kernel_rfl) ?_ _
        clear hHeld
        have r0 := (ZE.out.2 0 _ rfl).1
        have r1 := (ZE.out.2 1 _ rfl).1
        have r2 := (ZE.out.2 2 _ rfl).1
        have r3 := (ZE.out.2 3 _ rfl).1
        have r4 := (ZE.out.2 4 _ rfl).1
        have r5 := (ZE.out.2 5 _ rfl).1
        go_wp2
        refine bodyPost_ret (v := .agg #[.slice (some ⟨pT, 0, none⟩) x.t.length cT, .slice (some ⟨gL, 0, none⟩) x.l.length cL, .int .i64 x.now, .int .i64 x.ver, .slice (some ⟨pD, 0, none⟩) x.dr.length cD, .slice (some ⟨pU, 0, none⟩) x.us.length cU]) (by simp [results, Tryz.results37, go_sem, r0, r1, r2, r3, r4, r5]) rfl ⟨⟨pT, cT, gL, cL, pD, cD, pU, cU, _, _, _, _, rfl, TE.out, LE.out, DE.out.low hN2, UE.out.low hN2, ?_, ?_, ?_, ?_, ?_, ?_, ?_, ?_⟩, KE.out.mono hN2⟩
        all_goals omega
    · go_simp
      have O := OwnG.made (tE := 3) (K := 1) (cs := ci) w1 N (by have := K1.out.size; omega)
      have b2 := (Below.refl w1.heap.size w1).alloc (Nat.le_refl _) (Obj.cells #[] 3)
      have q2 : w1.heap.size < (w1.alloc (Obj.cells #[] 3)).heap.size := by simp
      obtain ⟨w2, hw2⟩ : ∃ X, w1.alloc (Obj.cells #[] 3) = X := ⟨_, rfl⟩
      rw [hw2] at O b2 q2 ⊢
      clear hw2
      obtain ⟨gA, hgA⟩ : ∃ g, w1.heap.size = g := ⟨_, rfl⟩
      have lA1 : w1.heap.size ≤ gA := Nat.le_of_eq hgA
      have lA2 : gA ≤ w1.heap.size := Nat.le_of_eq hgA.symm
      rw [hgA] at O q2 ⊢
      have b2 : Below w1.heap.size w1 w2 := by rw [hgA]; rw [hgA] at b2; exact b2
      clear hgA
      have K2 := hide (K1.out.trans (b2.mono (by have := K1.out.size; omega)))
      have X2 := hide (X1.out.next b2)
      have Z2 := hide (Z1.out.next b2)
      have y2 := b2.size
      have T2 := hide (T1.out.next b2)
      clear K1 X1 Z1 T1
      have A2 := hide O
      clear b2 O
      refine hK.out _ _ (flat _ X2.out) (fun hHeld2 => ?_)
      clear hK K hHeld
      have hHeld := hHeld2
      clear hHeld2
      simp only [List.setIfInBounds_toArray, List.set_cons_succ, List.set_cons_zero]
      refine wpAnyH_ready (rs := [5, 14]) (by kernel_rfl) (by simp) ?_
      refine AllReadyH.cons rfl (fun K hK => ?_) (AllReadyH.cons rfl (fun K hK => ?_) AllReadyH.nil)
      · go_simp
        refine (HL.out _ K2.out).mono ?_
        rintro e w3 ⟨⟨gL, cL, tsL, rfl, mL, rL, pL, lgL, lcL, lmL⟩, b3⟩
        have vwL := vw_of_rowV mL rL pL lgL lcL lmL
        have K3 := hide (K2.out.trans (b3.mono (by have := K2.out.size; omega)))
        have X3 := hide (X2.out.next b3)
        have Z3 := hide (Z2.out.next b3)
        have y3 := b3.size
        have T3 := hide (T2.out.next b3)
        have A3 := hide (A2.out.next b3)
        clear K2 X2 Z2 T2 A2
        have L3 := hide vwL
        clear b3 mL rL pL lgL lcL lmL vwL HL
        refine hK.out _ _ (flat _ X3.out) (fun hHeld2 => ?_)
        clear hK K hHeld
        have hHeld := hHeld2
        clear hHeld2
        simp only [List.setIfInBounds_toArray, List.set_cons_succ, List.set_cons_zero]
        refine wpAnyH_ready (rs := [13, 14]) (by kernel_rfl) (by simp) ?_
        refine AllReadyH.cons rfl (fun K hK => ?_) (AllReadyH.cons rfl (fun K hK => ?_) AllReadyH.nil)
        · refine step_append_ints0 rfl _ _ rfl N gA (by first | rfl | (simp [Act.eval])) A3.out N da x.dr dc (by first | rfl | (simp [Act.eval])) (HD.out _ K3.out) HDn.out HDl.out (by have := K3.out.size; omega) ?_
          intro pD cD w4 O b4 hatD
          have sD : pD < w4.heap.size := (World.ownsRow.lt O pD rfl).2
          clear A3
          have K4 := hide (K3.out.trans (b4.mono (by have := K3.out.size; omega)))
          have X4 := hide (X3.out.next b4)
          have Z4 := hide (Z3.out.next b4)
          have y4 := b4.size
          have T4 := hide (T3.out.next b4)
          have L4 := hide (L3.out.next b4)
          clear K3 X3 Z3 T3 L3
          have D4 := hide O
          clear b4 O
          refine hK.out _ _ (flat _ X4.out) (fun hHeld2 => ?_)
          clear hK K hHeld
          have hHeld := hHeld2
          clear hHeld2
          simp only [List.setIfInBounds_toArray, List.set_cons_succ, List.set_cons_zero]
          refine wpAnyH_ready (rs := [14]) (by kernel_rfl) (by simp) ?_
          refine AllReadyH.cons rfl (fun K hK => ?_) AllReadyH.nil
          go_simp
          have O := OwnG.made (tE := 3) (K := 1) (cs := ci) w4 N (by have := K4.out.size; omega)
          have b5 := (Below.refl w4.heap.size w4).alloc (Nat.le_refl _) (Obj.cells #[] 3)
          have q5 : w4.heap.size < (w4.alloc (Obj.cells #[] 3)).heap.size := by simp
          obtain ⟨w5, hw5⟩ : ∃ X, w4.alloc (Obj.cells #[] 3) = X := ⟨_, rfl⟩
          rw [hw5] at O b5 q5 ⊢
          clear hw5
          obtain ⟨gB, hgB⟩ : ∃ g, w4.heap.size = g := ⟨_, rfl⟩
          have lB1 : w4.heap.size ≤ gB := Nat.le_of_eq hgB
          have lB2 : gB ≤ w4.heap.size := Nat.le_of_eq hgB.symm
          rw [hgB] at O q5 ⊢
          have b5 : Below w4.heap.size w4 w5 := by rw [hgB]; rw [hgB] at b5; exact b5
          clear hgB
          have K5 := hide (K4.out.trans (b5.mono (by have := K4.out.size; omega)))
          have X5 := hide (X4.out.next b5)
          have Z5 := hide (Z4.out.next b5)
          have y5 := b5.size
          have T5 := hide (T4.out.next b5)
          have L5 := hide (L4.out.next b5)
          have D5 := hide (D4.out.next b5)
          clear K4 X4 Z4 T4 L4 D4
          have B5 := hide O
          clear b5 O
          refine hK.out _ _ (flat _ X5.out) (fun hHeld2 => ?_)
          clear hK K hHeld
          have hHeld := hHeld2
          clear hHeld2
          simp only [List.setIfInBounds_toArray, List.set_cons_succ, List.set_cons_zero]
          refine wpAnyH_ready (rs := [17]) (by kernel_rfl) (by simp) ?_
          refine AllReadyH.cons rfl (fun K hK => ?_) AllReadyH.nil
          refine step_append_ints0 rfl _ _ rfl N gB (by first | rfl | (simp [Act.eval])) B5.out N ua x.us uc (by first | rfl | (simp [Act.eval])) (HU.out _ K5.out) HUn.out HUl.out (by have := K5.out.size; omega) ?_
          intro pU cU w6 O b6 hatU
          have sU : pU < w6.heap.size := (World.ownsRow.lt O pU rfl).2
          clear B5
          have K6 := hide (K5.out.trans (b6.mono (by have := K5.out.size; omega)))
          have X6 := hide (X5.out.next b6)
          have Z6 := hide (Z5.out.next b6)
          have y6 := b6.size
          have T6 := hide (T5.out.next b6)
          have L6 := hide (L5.out.next b6)
          have D6 := hide (D5.out.next b6)
          clear K5 X5 Z5 T5 L5 D5
          have U6 := hide O
          clear b6 O
          refine hK.out _ _ (flat _ X6.out) (fun hHeld2 => ?_)
          clear hK K hHeld
          have hHeld := hHeld2
          clear hHeld2
          simp only [List.setIfInBounds_toArray, List.set_cons_succ, List.set_cons_zero]
          refine wpAnyH_take (i := 18) (v := ?_) rfl (by kernel_rfl) (by kernel_rfl) (by kernel_rfl) (fun _ _ _ h => h) (Or.inl ⟨by rfl, ?_⟩) (by assumption) ?_
          rotate_left
          · intro w hSw; (try dsimp only at hSw); go_simp; try with_reducible rfl
          simp only [Act.put, List.getElem_toArray, List.getElem_cons_succ, List.getElem_cons_zero, List.setIfInBounds_toArray, List.set_cons_succ, List.set_cons_zero]
          refine wpAnyH_ready (rs := [19]) (by kernel_rfl) (by simp) ?_
          refine AllReadyH.cons rfl (fun K hK => ?_) AllReadyH.nil
          obtain ⟨d0, f0⟩ := Z6.out.2 0 _ rfl
          obtain ⟨d1, f1⟩ := Z6.out.2 1 _ rfl
          obtain ⟨d2, f2⟩ := Z6.out.2 2 _ rfl
          obtain ⟨d3, f3⟩ := Z6.out.2 3 _ rfl
          obtain ⟨d4, f4⟩ := Z6.out.2 4 _ rfl
          obtain ⟨d5, f5⟩ := Z6.out.2 5 _ rfl
          go_simp
          clear d0 f0 d1 f1 d2 f2 d3 f3 d4 f4 d5 f5
          have XE := hide ((((((X6.out.other ⟨N + 1, 0, none⟩ (.slice (some ⟨pT, 0, none⟩) x.t.length cT) (by show N + 1 ≠ N; omega)).other ⟨N + 1, 1, none⟩ (.slice (some ⟨gL, 0, none⟩) x.l.length cL) (by show N + 1 ≠ N; omega)).other ⟨N + 1, 2, none⟩ (.int .i64 x.now) (by show N + 1 ≠ N; omega)).other ⟨N + 1, 3, none⟩ (.int .i64 x.ver) (by show N + 1 ≠ N; omega)).other ⟨N + 1, 4, none⟩ (.slice (some ⟨pD, 0, none⟩) x.dr.length cD) (by show N + 1 ≠ N; omega)).other ⟨N + 1, 5, none⟩ (.slice (some ⟨pU, 0, none⟩) x.us.length cU) (by show N + 1 ≠ N; omega))
          have ZE := hide (show BoxV ((((((w6.setCell ⟨N + 1, 0, none⟩ (.slice (some ⟨pT, 0, none⟩) x.t.length cT)).setCell ⟨N + 1, 1, none⟩ (.slice (some ⟨gL, 0, none⟩) x.l.length cL)).setCell ⟨N + 1, 2, none⟩ (.int .i64 x.now)).setCell ⟨N + 1, 3, none⟩ (.int .i64 x.ver)).setCell ⟨N + 1, 4, none⟩ (.slice (some ⟨pD, 0, none⟩) x.dr.length cD)).setCell ⟨N + 1, 5, none⟩ (.slice (some ⟨pU, 0, none⟩) x.us.length cU)) (N + 1) [.slice (some ⟨pT, 0, none⟩) x.t.length cT, .slice (some ⟨gL, 0, none⟩) x.l.length cL, .int .i64 x.now, .int .i64 x.ver, .slice (some ⟨pD, 0, none⟩) x.dr.length cD, .slice (some ⟨pU, 0, none⟩) x.us.length cU] from ((((((Z6.out.set 0 (by simp) (.slice (some ⟨pT, 0, none⟩) x.t.length cT)).set 1 (by simp) (.slice (some ⟨gL, 0, none⟩) x.l.length cL)).set 2 (by simp) (.int .i64 x.now)).set 3 (by simp) (.int .i64 x.ver)).set 4 (by simp) (.slice (some ⟨pD, 0, none⟩) x.dr.length cD)).set 5 (by simp) (.slice (some ⟨pU, 0, none⟩) x.us.length cU)))
          have KE := hide ((((((K6.out.setCell (p := ⟨N + 1, 0, none⟩) (by show N ≤ N + 1; omega) (.slice (some ⟨pT, 0, none⟩) x.t.length cT)).setCell (p := ⟨N + 1, 1, none⟩) (by show N ≤ N + 1; omega) (.slice (some ⟨gL, 0, none⟩) x.l.length cL)).setCell (p := ⟨N + 1, 2, none⟩) (by show N ≤ N + 1; omega) (.int .i64 x.now)).setCell (p := ⟨N + 1, 3, none⟩) (by show N ≤ N + 1; omega) (.int .i64 x.ver)).setCell (p := ⟨N + 1, 4, none⟩) (by show N ≤ N + 1; omega) (.slice (some ⟨pD, 0, none⟩) x.dr.length cD)).setCell (p := ⟨N + 1, 5, none⟩) (by show N ≤ N + 1; omega) (.slice (some ⟨pU, 0, none⟩) x.us.length cU))
          have TE := hide ((((((T6.out.setCell ⟨N + 1, 0, none⟩ (.slice (some ⟨pT, 0, none⟩) x.t.length cT) (.inl (by show N + 1 < _; omega))).setCell ⟨N + 1, 1, none⟩ (.slice (some ⟨gL, 0, none⟩) x.l.length cL) (.inl (by show N + 1 < _; omega))).setCell ⟨N + 1, 2, none⟩ (.int .i64 x.now) (.inl (by show N + 1 < _; omega))).setCell ⟨N + 1, 3, none⟩ (.int .i64 x.ver) (.inl (by show N + 1 < _; omega))).setCell ⟨N + 1, 4, none⟩ (.slice (some ⟨pD, 0, none⟩) x.dr.length cD) (.inl (by show N + 1 < _; omega))).setCell ⟨N + 1, 5, none⟩ (.slice (some ⟨pU, 0, none⟩) x.us.length cU) (.inl (by show N + 1 < _; omega)))
          have LE := hide ((((((L6.out.setCell ⟨N + 1, 0, none⟩ (.slice (some ⟨pT, 0, none⟩) x.t.length cT) (.inl (by show N + 1 < _; omega))).setCell ⟨N + 1, 1, none⟩ (.slice (some ⟨gL, 0, none⟩) x.l.length cL) (.inl (by show N + 1 < _; omega))).setCell ⟨N + 1, 2, none⟩ (.int .i64 x.now) (.inl (by show N + 1 < _; omega))).setCell ⟨N + 1, 3, none⟩ (.int .i64 x.ver) (.inl (by show N + 1 < _; omega))).setCell ⟨N + 1, 4, none⟩ (.slice (some ⟨pD, 0, none⟩) x.dr.length cD) (.inl (by show N + 1 < _; omega))).setCell ⟨N + 1, 5, none⟩ (.slice (some ⟨pU, 0, none⟩) x.us.length cU) (.inl (by show N + 1 < _; omega)))
          have DE := hide ((((((D6.out.keepB (Below.heap_setCell _ ⟨N + 1, 0, none⟩ (.slice (some ⟨pT, 0, none⟩) x.t.length cT) _ (by show pD ≠ N + 1; omega))).keepB (Below.heap_setCell _ ⟨N + 1, 1, none⟩ (.slice (some ⟨gL, 0, none⟩) x.l.length cL) _ (by show pD ≠ N + 1; omega))).keepB (Below.heap_setCell _ ⟨N + 1, 2, none⟩ (.int .i64 x.now) _ (by show pD ≠ N + 1; omega))).keepB (Below.heap_setCell _ ⟨N + 1, 3, none⟩ (.int .i64 x.ver) _ (by show pD ≠ N + 1; omega))).keepB (Below.heap_setCell _ ⟨N + 1, 4, none⟩ (.slice (some ⟨pD, 0, none⟩) x.dr.length cD) _ (by show pD ≠ N + 1; omega))).keepB (Below.heap_setCell _ ⟨N + 1, 5, none⟩ (.slice (some ⟨pU, 0, none⟩) x.us.length cU) _ (by show pD ≠ N + 1; omega)))
          have UE := hide ((((((U6.out.keepB (Below.heap_setCell _ ⟨N + 1, 0, none⟩ (.slice (some ⟨pT, 0, none⟩) x.t.length cT) _ (by show pU ≠ N + 1; omega))).keepB (Below.heap_setCell _ ⟨N + 1, 1, none⟩ (.slice (some ⟨gL, 0, none⟩) x.l.length cL) _ (by show pU ≠ N + 1; omega))).keepB (Below.heap_setCell _ ⟨N + 1, 2, none⟩ (.int .i64 x.now) _ (by show pU ≠ N + 1; omega))).keepB (Below.heap_setCell _ ⟨N + 1, 3, none⟩ (.int .i64 x.ver) _ (by show pU ≠ N + 1; omega))).keepB (Below.heap_setCell _ ⟨N + 1, 4, none⟩ (.slice (some ⟨pD, 0, none⟩) x.dr.length cD) _ (by show pU ≠ N + 1; omega))).keepB (Below.heap_setCell _ ⟨N + 1, 5, none⟩ (.slice (some ⟨pU, 0, none⟩) x.us.length cU) _ (by show pU ≠ N + 1; omega)))
          refine hK.out _ _ (flat _ XE.out) (fun hHeld2 => ?_)
          clear hK K hHeld
          have hHeld := hHeld2
          clear hHeld2
          simp only [List.setIfInBounds_toArray, List.set_cons_succ, List.set_cons_zero]
          refine wpAnyH_done (by kernel_rfl) ?_ _
          clear hHeld
          have r0 := (ZE.out.2 0 _ rfl).1
          have r1 := (ZE.out.2 1 _ rfl).1
          have r2 := (ZE.out.2 2 _ rfl).1
          have r3 := (ZE.out.2 3 _ rfl).1
          have r4 := (ZE.out.2 4 _ rfl).1
          have r5 := (ZE.out.2 5 _ rfl).1
          go_wp2
          refine bodyPost_ret (v := .agg #[.slice (some ⟨pT, 0, none⟩) x.t.length cT, .slice (some ⟨gL, 0, none⟩) x.l.length cL, .int .i64 x.now, .int .i64 x.ver, .slice (some ⟨pD, 0, none⟩) x.dr.length cD, .slice (some ⟨pU, 0, none⟩) x.us.length cU]) (by simp [results, Tryz.results37, go_sem, r0, r1, r2, r3, r4, r5]) rfl ⟨⟨pT, cT, gL, cL, pD, cD, pU, cU, _, _, _, _, rfl, TE.out, LE.out, DE.out.low hN2, UE.out.low hN2, ?_, ?_, ?_, ?_, ?_, ?_, ?_, ?_⟩, KE.out.mono hN2⟩
          all_goals omega
        · go_simp
          have O := OwnG.made (tE := 3) (K := 1) (cs := ci) w3 N (by have := K3.out.size; omega)
          have b4 := (Below.refl w3.heap.size w3).alloc (Nat.le_refl _) (Obj.cells #[] 3)
          have q4 : w3.heap.size < (w3.alloc (Obj.cells #[] 3)).heap.size := by simp
          obtain ⟨w4, hw4⟩ : ∃ X, w3.alloc (Obj.cells #[] 3) = X := ⟨_, rfl⟩
          rw [hw4] at O b4 q4 ⊢
          clear hw4
          obtain ⟨gB, hgB⟩ : ∃ g, w3.heap.size = g := ⟨_, rfl⟩
          have lB1 : w3.heap.size ≤ gB := Nat.le_of_eq hgB
          have lB2 : gB ≤ w3.heap.size := Nat.le_of_eq hgB.symm
          rw [hgB] at O q4 ⊢
          have b4 : Below w3.heap.size w3 w4 := by rw [hgB]; rw [hgB] at b4; exact b4
          clear hgB
          have K4 := hide (K3.out.trans (b4.mono (by have := K3.out.size; omega)))
          have X4 := hide (X3.out.next b4)
          have Z4 := hide (Z3.out.next b4)
          have y4 := b4.size
          have T4 := hide (T3.out.next b4)
          have A4 := hide (A3.out.next b4)
          have L4 := hide (L3.out.next b4)
          clear K3 X3 Z3 T3 A3 L3
          have B4 := hide O
          clear b4 O
          refine hK.out _ _ (flat _ X4.out) (fun hHeld2 => ?_)
          clear hK K hHeld
          have hHeld := hHeld2
          clear hHeld2
          simp only [List.setIfInBounds_toArray, List.set_cons_succ, List.set_cons_zero]
          refine wpAnyH_ready (rs := [13]) (by kernel_rfl) (by simp) ?_
          refine AllReadyH.cons rfl (fun K hK => ?_) AllReadyH.nil
          refine step_append_ints0 rfl _ _ rfl N gA (by first | rfl | (simp [Act.eval])) A4.out N da x.dr dc (by first | rfl | (simp [Act.eval])) (HD.out _ K4.out) HDn.out HDl.out (by have := K4.out.size; omega) ?_
          intro pD cD w5 O b5 hatD
          have sD : pD < w5.heap.size := (World.ownsRow.lt O pD rfl).2
          clear A4
          have K5 := hide (K4.out.trans (b5.mono (by have := K4.out.size; omega)))
          have X5 := hide (X4.out.next b5)
          have Z5 := hide (Z4.out.next b5)
          have y5 := b5.size
          have T5 := hide (T4.out.next b5)
          have L5 := hide (L4.out.next b5)
          have B5 := hide (B4.out.next b5)
          clear K4 X4 Z4 T4 L4 B4
          have D5 := hide O
          clear b5 O
          refine hK.out _ _ (flat _ X5.out) (fun hHeld2 => ?_)
          clear hK K hHeld
          have hHeld := hHeld2
          clear hHeld2
          simp only [List.setIfInBounds_toArray, List.set_cons_succ, List.set_cons_zero]
          refine wpAnyH_ready (rs := [17]) (by kernel_rfl) (by simp) ?_
          refine AllReadyH.cons rfl (fun K hK => ?_) AllReadyH.nil
          refine step_append_ints0 rfl _ _ rfl N gB (by first | rfl | (simp [Act.eval])) B5.out N ua x.us uc (by first | rfl | (simp [Act.eval])) (HU.out _ K5.out) HUn.out HUl.out (by have := K5.out.size; omega) ?_
          intro pU cU w6 O b6 hatU
          have sU : pU < w6.heap.size := (World.ownsRow.lt O pU rfl).2
          clear B5
          have K6 := hide (K5.out.trans (b6.mono (by have := K5.out.size; omega)))
          have X6 := hide (X5.out.next b6)
          have Z6 := hide (Z5.out.next b6)
          have y6 := b6.size
          have T6 := hide (T5.out.next b6)
          have L6 := hide (L5.out.next b6)
          have D6 := hide (D5.out.next b6)
          clear K5 X5 Z5 T5 L5 D5
          have U6 := hide O
          clear b6 O
          refine hK.out _ _ (flat _ X6.out) (fun hHeld2 => ?_)
          clear hK K hHeld
          have hHeld := hHeld2
          clear hHeld2
          simp only [List.setIfInBounds_toArray, List.set_cons_succ, List.set_cons_zero]
          refine wpAnyH_take (i := 18) (v := ?_) rfl (by kernel_rfl) (by kernel_rfl) (by kernel_rfl) (fun _ _ _ h => h) (Or.inl ⟨by rfl, ?_⟩) (by assumption) ?_
          rotate_left
          · intro w hSw; (try dsimp only at hSw); go_simp; try with_reducible rfl
          simp only [Act.put, List.getElem_toArray, List.getElem_cons_succ, List.getElem_cons_zero, List.setIfInBounds_toArray, List.set_cons_succ, List.set_cons_zero]
          refine wpAnyH_ready (rs := [19]) (by kernel_rfl) (by simp) ?_
          refine AllReadyH.cons rfl (fun K hK => ?_) AllReadyH.nil
          obtain ⟨d0, f0⟩ := Z6.out.2 0 _ rfl
          obtain ⟨d1, f1⟩ := Z6.out.2 1 _ rfl
          obtain ⟨d2, f2⟩ := Z6.out.2 2 _ rfl
          obtain ⟨d3, f3⟩ := Z6.out.2 3 _ rfl
          obtain ⟨d4, f4⟩ := Z6.out.2 4 _ rfl
          obtain ⟨d5, f5⟩ := Z6.out.2 5 _ rfl
          go_simp
          clear d0 f0 d1 f1 d2 f2 d3 f3 d4 f4 d5 f5
          have XE := hide ((((((X6.out.other ⟨N + 1, 0, none⟩ (.slice (some ⟨pT, 0, none⟩) x.t.length cT) (by show N + 1 ≠ N; omega)).other ⟨N + 1, 1, none⟩ (.slice (some ⟨gL, 0, none⟩) x.l.length cL) (by show N + 1 ≠ N; omega)).other ⟨N + 1, 2, none⟩ (.int .i64 x.now) (by show N + 1 ≠ N; omega)).other ⟨N + 1, 3, none⟩ (.int .i64 x.ver) (by show N + 1 ≠ N; omega)).other ⟨N + 1, 4, none⟩ (.slice (some ⟨pD, 0, none⟩) x.dr.length cD) (by show N + 1 ≠ N; omega)).other ⟨N + 1, 5, none⟩ (.slice (some ⟨pU, 0, none⟩) x.us.length cU) (by show N + 1 ≠ N; omega))
          have ZE := hide (show BoxV ((((((w6.setCell ⟨N + 1, 0, none⟩ (.slice (some ⟨pT, 0, none⟩) x.t.length cT)).setCell ⟨N + 1, 1, none⟩ (.slice (some ⟨gL, 0, none⟩) x.l.length cL)).setCell ⟨N + 1, 2, none⟩ (.int .i64 x.now)).setCell ⟨N + 1, 3, none⟩ (.int .i64 x.ver)).setCell ⟨N + 1, 4, none⟩ (.slice (some ⟨pD, 0, none⟩) x.dr.length cD)).setCell ⟨N + 1, 5, none⟩ (.slice (some ⟨pU, 0, none⟩) x.us.length cU)) (N + 1) [.slice (some ⟨pT, 0, none⟩) x.t.length cT, .slice (some ⟨gL, 0, none⟩) x.l.length cL, .int .i64 x.now, .int .i64 x.ver, .slice (some ⟨pD, 0, none⟩) x.dr.length cD, .slice (some ⟨pU, 0, none⟩) x.us.length cU] from ((((((Z6.out.set 0 (by simp) (.slice (some ⟨pT, 0, none⟩) x.t.length cT)).set 1 (by simp) (.slice (some ⟨gL, 0, none⟩) x.l.length cL)).set 2 (by simp) (.int .i64 x.now)).set 3 (by simp) (.int .i64 x.ver)).set 4 (by simp) (.slice (some ⟨pD, 0, none⟩) x.dr.length cD)).set 5 (by simp) (.slice (some ⟨pU, 0, none⟩) x.us.length cU)))
          have KE := hide ((((((K6.out.setCell (p := ⟨N + 1, 0, none⟩) (by show N ≤ N + 1; omega) (.slice (some ⟨pT, 0, none⟩) x.t.length cT)).setCell (p := ⟨N + 1, 1, none⟩) (by show N ≤ N + 1; omega) (.slice (some ⟨gL, 0, none⟩) x.l.length cL)).setCell (p := ⟨N + 1, 2, none⟩) (by show N ≤ N + 1; omega) (.int .i64 x.now)).setCell (p := ⟨N + 1, 3, none⟩) (by show N ≤ N + 1; omega) (.int .i64 x.ver)).setCell (p := ⟨N + 1, 4, none⟩) (by show N ≤ N + 1; omega) (.slice (some ⟨pD, 0, none⟩) x.dr.length cD)).setCell (p := ⟨N + 1, 5, none⟩) (by show N ≤ N + 1; omega) (.slice (some ⟨pU, 0, none⟩) x.us.length cU))
          have TE := hide ((((((T6.out.setCell ⟨N + 1, 0, none⟩ (.slice (some ⟨pT, 0, none⟩) x.t.length cT) (.inl (by show N + 1 < _; omega))).setCell ⟨N + 1, 1, none⟩ (.slice (some ⟨gL, 0, none⟩) x.l.length cL) (.inl (by show N + 1 < _; omega))).setCell ⟨N + 1, 2, none⟩ (.int .i64 x.now) (.inl (by show N + 1 < _; omega))).setCell ⟨N + 1, 3, none⟩ (.int .i64 x.ver) (.inl (by show N + 1 < _; omega))).setCell ⟨N + 1, 4, none⟩ (.slice (some ⟨pD, 0, none⟩) x.dr.length cD) (.inl (by show N + 1 < _; omega))).setCell ⟨N + 1, 5, none⟩ (.slice (some ⟨pU, 0, none⟩) x.us.length cU) (.inl (by show N + 1 < _; omega)))
          have LE := hide ((((((L6.out.setCell ⟨N + 1, 0, none⟩ (.slice (some ⟨pT, 0, none⟩) x.t.length cT) (.inl (by show N + 1 < _; omega))).setCell ⟨N + 1, 1, none⟩ (.slice (some ⟨gL, 0, none⟩) x.l.length cL) (.inl (by show N + 1 < _; omega))).setCell ⟨N + 1, 2, none⟩ (.int .i64 x.now) (.inl (by show N + 1 < _; omega))).setCell ⟨N + 1, 3, none⟩ (.int .i64 x.ver) (.inl (by show N + 1 < _; omega))).setCell ⟨N + 1, 4, none⟩ (.slice (some ⟨pD, 0, none⟩) x.dr.length cD) (.inl (by show N + 1 < _; omega))).setCell ⟨N + 1, 5, none⟩ (.slice (some ⟨pU, 0, none⟩) x.us.length cU) (.inl (by show N + 1 < _; omega)))
          have DE := hide ((((((D6.out.keepB (Below.heap_setCell _ ⟨N + 1, 0, none⟩ (.slice (some ⟨pT, 0, none⟩) x.t.length cT) _ (by show pD ≠ N + 1; omega))).keepB (Below.heap_setCell _ ⟨N + 1, 1, none⟩ (.slice (some ⟨gL, 0, none⟩) x.l.length cL) _ (by show pD ≠ N + 1; omega))).keepB (Below.heap_setCell _ ⟨N + 1, 2, none⟩ (.int .i64 x.now) _ (by show pD ≠ N + 1; omega))).keepB (Below.heap_setCell _ ⟨N + 1, 3, none⟩ (.int .i64 x.ver) _ (by show pD ≠ N + 1; omega))).keepB (Below.heap_setCell _ ⟨N + 1, 4, none⟩ (.slice (some ⟨pD, 0, none⟩) x.dr.length cD) _ (by show pD ≠ N + 1; omega))).keepB (Below.heap_setCell _ ⟨N + 1, 5, none⟩ (.slice (some ⟨pU, 0, none⟩) x.us.length cU) _ (by show pD ≠ N + 1; omega)))
          have UE := hide ((((((U6.out.keepB (Below.heap_setCell _ ⟨N + 1, 0, none⟩ (.slice (some ⟨pT, 0, none⟩) x.t.length cT) _ (by show pU ≠ N + 1; omega))).keepB (Below.heap_setCell _ ⟨N + 1, 1, none⟩ (.slice (some ⟨gL, 0, none⟩) x.l.length cL) _ (by show pU ≠ N + 1; omega))).keepB (Below.heap_setCell _ ⟨N + 1, 2, none⟩ (.int .i64 x.now) _ (by show pU ≠ N + 1; omega))).keepB (Below.heap_setCell _ ⟨N + 1, 3, none⟩ (.int .i64 x.ver) _ (by show pU ≠ N + 1; omega))).keepB (Below.heap_setCell _ ⟨N + 1, 4, none⟩ (.slice (some ⟨pD, 0, none⟩) x.dr.length cD) _ (by show pU ≠ N + 1; omega))).keepB (Below.heap_setCell _ ⟨N + 1, 5, none⟩ (.slice (some ⟨pU, 0, none⟩) x.us.length cU) _ (by show pU ≠ N + 1; omega)))
          refine hK.out _ _ (flat _ XE.out) (fun hHeld2 => ?_)
          clear hK K hHeld
          have hHeld := hHeld2
          clear hHeld2
          simp only [List.setIfInBounds_toArray, List.set_cons_succ, List.set_cons_zero]
          refine wpAnyH_done (by kernel_rfl) ?_ _
          clear hHeld
          have r0 := (ZE.out.2 0 _ rfl).1
          have r1 := (ZE.out.2 1 _ rfl).1
          have r2 := (ZE.out.2 2 _ rfl).1
          have r3 := (ZE.out.2 3 _ rfl).1
          have r4 := (ZE.out.2 4 _ rfl).1
          have r5 := (ZE.out.2 5 _ rfl).1
          go_wp2
          refine bodyPost_ret (v := .agg #[.slice (some ⟨pT, 0, none⟩) x.t.length cT, .slice (some ⟨gL, 0, none⟩) x.l.length cL, .int .i64 x.now, .int .i64 x.ver, .slice (some ⟨pD, 0, none⟩) x.dr.length cD, .slice (some ⟨pU, 0, none⟩) x.us.length cU]) (by simp [results, Tryz.results37, go_sem, r0, r1, r2, r3, r4, r5]) rfl ⟨⟨pT, cT, gL, cL, pD, cD, pU, cU, _, _, _, _, rfl, TE.out, LE.out, DE.out.low hN2, UE.out.low hN2, ?_, ?_, ?_, ?_, ?_, ?_, ?_, ?_⟩, KE.out.mono hN2⟩
          all_goals omega
      · go_simp
        have O := OwnG.made (tE := 3) (K := 1) (cs := ci) w2 N (by have := K2.out.size; omega)
        have b3 := (Below.refl w2.heap.size w2).alloc (Nat.le_refl _) (Obj.cells #[] 3)
        have q3 : w2.heap.size < (w2.alloc (Obj.cells #[] 3)).heap.size := by simp
        obtain ⟨w3, hw3⟩ : ∃ X, w2.alloc (Obj.cells #[] 3) = X := ⟨_, rfl⟩
        rw [hw3] at O b3 q3 ⊢
        clear hw3
        obtain ⟨gB, hgB⟩ : ∃ g, w2.heap.size = g := ⟨_, rfl⟩
        have lB1 : w2.heap.size ≤ gB := Nat.le_of_eq hgB
        have lB2 : gB ≤ w2.heap.size := Nat.le_of_eq hgB.symm
        rw [hgB] at O q3 ⊢
        have b3 : Below w2.heap.size w2 w3 := by rw [hgB]; rw [hgB] at b3; exact b3
        clear hgB
        have K3 := hide (K2.out.trans (b3.mono (by have := K2.out.size; omega)))
        have X3 := hide (X2.out.next b3)
        have Z3 := hide (Z2.out.next b3)
        have y3 := b3.size
        have T3 := hide (T2.out.next b3)
        have A3 := hide (A2.out.next b3)
        clear K2 X2 Z2 T2 A2
        have B3 := hide O
        clear b3 O
        refine hK.out _ _ (flat _ X3.out) (fun hHeld2 => ?_)
        clear hK K hHeld
        have hHeld := hHeld2
        clear hHeld2
        simp only [List.setIfInBounds_toArray, List.set_cons_succ, List.set_cons_zero]
        refine wpAnyH_ready (rs := [5]) (by kernel_rfl) (by simp) ?_
        refine AllReadyH.cons rfl (fun K hK => ?_) AllReadyH.nil
        go_simp
        refine (HL.out _ K3.out).mono ?_
        rintro e w4 ⟨⟨gL, cL, tsL, rfl, mL, rL, pL, lgL, lcL, lmL⟩, b4⟩
        have vwL := vw_of_rowV mL rL pL lgL lcL lmL
        have K4 := hide (K3.out.trans (b4.mono (by have := K3.out.size; omega)))
        have X4 := hide (X3.out.next b4)
        have Z4 := hide (Z3.out.next b4)
        have y4 := b4.size
        have T4 := hide (T3.out.next b4)
        have A4 := hide (A3.out.next b4)
        have B4 := hide (B3.out.next b4)
        clear K3 X3 Z3 T3 A3 B3
        have L4 := hide vwL
        clear b4 mL rL pL lgL lcL lmL vwL HL
        refine hK.out _ _ (flat _ X4.out) (fun hHeld2 => ?_)
        clear hK K hHeld
        have hHeld := hHeld2
        clear hHeld2
        simp only [List.setIfInBounds_toArray, List.set_cons_succ, List.set_cons_zero]
        refine wpAnyH_ready (rs := [13]) (by kernel_rfl) (by simp) ?_
        refine AllReadyH.cons rfl (fun K hK => ?_) AllReadyH.nil
        refine step_append_ints0 rfl _ _ rfl N gA (by first | rfl | (simp [Act.eval])) A4.out N da x.dr dc (by first | rfl | (simp [Act.eval])) (HD.out _ K4.out) HDn.out HDl.out (by have := K4.out.size; omega) ?_
        intro pD cD w5 O b5 hatD
        have sD : pD < w5.heap.size := (World.ownsRow.lt O pD rfl).2
        clear A4
        have K5 := hide (K4.out.trans (b5.mono (by have := K4.out.size; omega)))
        have X5 := hide (X4.out.next b5)
        have Z5 := hide (Z4.out.next b5)
        have y5 := b5.size
        have T5 := hide (T4.out.next b5)
        have B5 := hide (B4.out.next b5)
        have L5 := hide (L4.out.next b5)
        clear K4 X4 Z4 T4 B4 L4
        have D5 := hide O
        clear b5 O
        refine hK.out _ _ (flat _ X5.out) (fun hHeld2 => ?_)
        clear hK K hHeld
        have hHeld := hHeld2
        clear hHeld2
        simp only [List.setIfInBounds_toArray, List.set_cons_succ, List.set_cons_zero]
        refine wpAnyH_ready (rs := [17]) (by kernel_rfl) (by simp) ?_
        refine AllReadyH.cons rfl (fun K hK => ?_) AllReadyH.nil
        refine step_append_ints0 rfl _ _ rfl N gB (by first | rfl | (simp [Act.eval])) B5.out N ua x.us uc (by first | rfl | (simp [Act.eval])) (HU.out _ K5.out) HUn.out HUl.out (by have := K5.out.size; omega) ?_
        intro pU cU w6 O b6 hatU
        have sU : pU < w6.heap.size := (World.ownsRow.lt O pU rfl).2
        clear B5
        have K6 := hide (K5.out.trans (b6.mono (by have := K5.out.size; omega)))
        have X6 := hide (X5.out.next b6)
        have Z6 := hide (Z5.out.next b6)
        have y6 := b6.size
        have T6 := hide (T5.out.next b6)
        have L6 := hide (L5.out.next b6)
        have D6 := hide (D5.out.next b6)
        clear K5 X5 Z5 T5 L5 D5
        have U6 := hide O
        clear b6 O
        refine hK.out _ _ (flat _ X6.out) (fun hHeld2 => ?_)
        clear hK K hHeld
        have hHeld := hHeld2
        clear hHeld2
        simp only [List.setIfInBounds_toArray, List.set_cons_succ, List.set_cons_zero]
        refine wpAnyH_take (i := 18) (v := ?_) rfl (by kernel_rfl) (by kernel_rfl) (by kernel_rfl) (fun _ _ _ h => h) (Or.inl ⟨by rfl, ?_⟩) (by assumption) ?_
        rotate_left
        · intro w hSw; (try dsimp only at hSw); go_simp; try with_reducible rfl
        simp only [Act.put, List.getElem_toArray, List.getElem_cons_succ, List.getElem_cons_zero, List.setIfInBounds_toArray, List.set_cons_succ, List.set_cons_zero]
        refine wpAnyH_ready (rs := [19]) (by kernel_rfl) (by simp) ?_
        refine AllReadyH.cons rfl (fun K hK => ?_) AllReadyH.nil
        obtain ⟨d0, f0⟩ := Z6.out.2 0 _ rfl
        obtain ⟨d1, f1⟩ := Z6.out.2 1 _ rfl
        obtain ⟨d2, f2⟩ := Z6.out.2 2 _ rfl
        obtain ⟨d3, f3⟩ := Z6.out.2 3 _ rfl
        obtain ⟨d4, f4⟩ := Z6.out.2 4 _ rfl
        obtain ⟨d5, f5⟩ := Z6.out.2 5 _ rfl
        go_simp
        clear d0 f0 d1 f1 d2 f2 d3 f3 d4 f4 d5 f5
        have XE := hide ((((((X6.out.other ⟨N + 1, 0, none⟩ (.slice (some ⟨pT, 0, none⟩) x.t.length cT) (by show N + 1 ≠ N; omega)).other ⟨N + 1, 1, none⟩ (.slice (some ⟨gL, 0, none⟩) x.l.length cL) (by show N + 1 ≠ N; omega)).other ⟨N + 1, 2, none⟩ (.int .i64 x.now) (by show N + 1 ≠ N; omega)).other ⟨N + 1, 3, none⟩ (.int .i64 x.ver) (by show N + 1 ≠ N; omega)).other ⟨N + 1, 4, none⟩ (.slice (some ⟨pD, 0, none⟩) x.dr.length cD) (by show N + 1 ≠ N; omega)).other ⟨N + 1, 5, none⟩ (.slice (some ⟨pU, 0, none⟩) x.us.length cU) (by show N + 1 ≠ N; omega))
        have ZE := hide (show BoxV ((((((w6.setCell ⟨N + 1, 0, none⟩ (.slice (some ⟨pT, 0, none⟩) x.t.length cT)).setCell ⟨N + 1, 1, none⟩ (.slice (some ⟨gL, 0, none⟩) x.l.length cL)).setCell ⟨N + 1, 2, none⟩ (.int .i64 x.now)).setCell ⟨N + 1, 3, none⟩ (.int .i64 x.ver)).setCell ⟨N + 1, 4, none⟩ (.slice (some ⟨pD, 0, none⟩) x.dr.length cD)).setCell ⟨N + 1, 5, none⟩ (.slice (some ⟨pU, 0, none⟩) x.us.length cU)) (N + 1) [.slice (some ⟨pT, 0, none⟩) x.t.length cT, .slice (some ⟨gL, 0, none⟩) x.l.length cL, .int .i64 x.now, .int .i64 x.ver, .slice (some ⟨pD, 0, none⟩) x.dr.length cD, .slice (some ⟨pU, 0, none⟩) x.us.length cU] from ((((((Z6.out.set 0 (by simp) (.slice (some ⟨pT, 0, none⟩) x.t.length cT)).set 1 (by simp) (.slice (some ⟨gL, 0, none⟩) x.l.length cL)).set 2 (by simp) (.int .i64 x.now)).set 3 (by simp) (.int .i64 x.ver)).set 4 (by simp) (.slice (some ⟨pD, 0, none⟩) x.dr.length cD)).set 5 (by simp) (.slice (some ⟨pU, 0, none⟩) x.us.length cU)))
        have KE := hide ((((((K6.out.setCell (p := ⟨N + 1, 0, none⟩) (by show N ≤ N + 1; omega) (.slice (some ⟨pT, 0, none⟩) x.t.length cT)).setCell (p := ⟨N + 1, 1, none⟩) (by show N ≤ N + 1; omega) (.slice (some ⟨gL, 0, none⟩) x.l.length cL)).setCell (p := ⟨N + 1, 2, none⟩) (by show N ≤ N + 1; omega) (.int .i64 x.now)).setCell (p := ⟨N + 1, 3, none⟩) (by show N ≤ N + 1; omega) (.int .i64 x.ver)).setCell (p := ⟨N + 1, 4, none⟩) (by show N ≤ N + 1; omega) (.slice (some ⟨pD, 0, none⟩) x.dr.length cD)).setCell (p := ⟨N + 1, 5, none⟩) (by show N ≤ N + 1; omega) (.slice (some ⟨pU, 0, none⟩) x.us.length cU))
        have TE := hide ((((((T6.out.setCell ⟨N + 1, 0, none⟩ (.slice (some ⟨pT, 0, none⟩) x.t.length cT) (.inl (by show N + 1 < _; omega))).setCell ⟨N + 1, 1, none⟩ (.slice (some ⟨gL, 0, none⟩) x.l.length cL) (.inl (by show N + 1 < _; omega))).setCell ⟨N + 1, 2, none⟩ (.int .i64 x.now) (.inl (by show N + 1 < _; omega))).setCell ⟨N + 1, 3, none⟩ (.int .i64 x.ver) (.inl (by show N + 1 < _; omega))).setCell ⟨N + 1, 4, none⟩ (.slice (some ⟨pD, 0, none⟩) x.dr.length cD) (.inl (by show N + 1 < _; omega))).setCell ⟨N + 1, 5, none⟩ (.slice (some ⟨pU, 0, none⟩) x.us.length cU) (.inl (by show N + 1 < _; omega)))
        have LE := hide ((((((L6.out.setCell ⟨N + 1, 0, none⟩ (.slice (some ⟨pT, 0, none⟩) x.t.length cT) (.inl (by show N + 1 < _; omega))).setCell ⟨N + 1, 1, none⟩ (.slice (some ⟨gL, 0, none⟩) x.l.length cL) (.inl (by show N + 1 < _; omega))).setCell ⟨N + 1, 2, none⟩ (.int .i64 x.now) (.inl (by show N + 1 < _; omega))).setCell ⟨N + 1, 3, none⟩ (.int .i64 x.ver) (.inl (by show N + 1 < _; omega))).setCell ⟨N + 1, 4, none⟩ (.slice (some ⟨pD, 0, none⟩) x.dr.length cD) (.inl (by show N + 1 < _; omega))).setCell ⟨N + 1, 5, none⟩ (.slice (some ⟨pU, 0, none⟩) x.us.length cU) (.inl (by show N + 1 < _; omega)))
        have DE := hide ((((((D6.out.keepB (Below.heap_setCell _ ⟨N + 1, 0, none⟩ (.slice (some ⟨pT, 0, none⟩) x.t.length cT) _ (by show pD ≠ N + 1; omega))).keepB (Below.heap_setCell _ ⟨N + 1, 1, none⟩ (.slice (some ⟨gL, 0, none⟩) x.l.length cL) _ (by show pD ≠ N + 1; omega))).keepB (Below.heap_setCell _ ⟨N + 1, 2, none⟩ (.int .i64 x.now) _ (by show pD ≠ N + 1; omega))).keepB (Below.heap_setCell _ ⟨N + 1, 3, none⟩ (.int .i64 x.ver) _ (by show pD ≠ N + 1; omega))).keepB (Below.heap_setCell _ ⟨N + 1, 4, none⟩ (.slice (some ⟨pD, 0, none⟩) x.dr.length cD) _ (by show pD ≠ N + 1; omega))).keepB (Below.heap_setCell _ ⟨N + 1, 5, none⟩ (.slice (some ⟨pU, 0, none⟩) x.us.length cU) _ (by show pD ≠ N + 1; omega)))
        have UE := hide ((((((U6.out.keepB (Below.heap_setCell _ ⟨N + 1, 0, none⟩ (.slice (some ⟨pT, 0, none⟩) x.t.length cT) _ (by show pU ≠ N + 1; omega))).keepB (Below.heap_setCell _ ⟨N + 1, 1, none⟩ (.slice (some ⟨gL, 0, none⟩) x.l.length cL) _ (by show pU ≠ N + 1; omega))).keepB (Below.heap_setCell _ ⟨N + 1, 2, none⟩ (.int .i64 x.now) _ (by show pU ≠ N + 1; omega))).keepB (Below.heap_setCell _ ⟨N + 1, 3, none⟩ (.int .i64 x.ver) _ (by show pU ≠ N + 1; omega))).keepB (Below.heap_setCell _ ⟨N + 1, 4, none⟩ (.slice (some ⟨pD, 0, none⟩) x.dr.length cD) _ (by show pU ≠ N + 1; omega))).keepB (Below.heap_setCell _ ⟨N + 1, 5, none⟩ (.slice (some ⟨pU, 0, none⟩) x.us.length cU) _ (by show pU ≠ N + 1; omega)))
        refine hK.out _ _ (flat _ XE.out) (fun hHeld2 => ?_)
        clear hK K hHeld
        have hHeld := hHeld2
        clear hHeld2
        simp only [List.setIfInBounds_toArray, List.set_cons_succ, List.set_cons_zero]
        refine wpAnyH_done (by kernel_rfl) ?_ _
        clear hHeld
        have r0 := (ZE.out.2 0 _ rfl).1
        have r1 := (ZE.out.2 1 _ rfl).1
        have r2 := (ZE.out.2 2 _ rfl).1
        have r3 := (ZE.out.2 3 _ rfl).1
        have r4 := (ZE.out.2 4 _ rfl).1
        have r5 := (ZE.out.2 5 _ rfl).1
        go_wp2
        refine bodyPost_ret (v := .agg #[.slice (some ⟨pT, 0, none⟩) x.t.length cT, .slice (some ⟨gL, 0, none⟩) x.l.length cL, .int .i64 x.now, .int .i64 x.ver, .slice (some ⟨pD, 0, none⟩) x.dr.length cD, .slice (some ⟨pU, 0, none⟩) x.us.length cU]) (by simp [results, Tryz.results37, go_sem, r0, r1, r2, r3, r4, r5]) rfl ⟨⟨pT, cT, gL, cL, pD, cD, pU, cU, _, _, _, _, rfl, TE.out, LE.out, DE.out.low hN2, UE.out.low hN2, ?_, ?_, ?_, ?_, ?_, ?_, ?_, ?_⟩, KE.out.mono hN2⟩
        all_goals omega
    · go_simp
      have O := OwnG.made (tE := 3) (K := 1) (cs := ci) w1 N (by have := K1.out.size; omega)
      have b2 := (Below.refl w1.heap.size w1).alloc (Nat.le_refl _) (Obj.cells #[] 3)
      have q2 : w1.heap.size < (w1.alloc (Obj.cells #[] 3)).heap.size := by simp
      obtain ⟨w2, hw2⟩ : ∃ X, w1.alloc (Obj.cells #[] 3) = X := ⟨_, rfl⟩
      rw [hw2] at O b2 q2 ⊢
      clear hw2
      obtain ⟨gB, hgB⟩ : ∃ g, w1.heap.size = g := ⟨_, rfl⟩
      have lB1 : w1.heap.size ≤ gB := Nat.le_of_eq hgB
      have lB2 : gB ≤ w1.heap.size := Nat.le_of_eq hgB.symm
      rw [hgB] at O q2 ⊢
      have b2 : Below w1.heap.size w1 w2 := by rw [hgB]; rw [hgB] at b2; exact b2
      clear hgB
      have K2 := hide (K1.out.trans (b2.mono (by have := K1.out.size; omega)))
      have X2 := hide (X1.out.next b2)
      have Z2 := hide (Z1.out.next b2)
      have y2 := b2.size
      have T2 := hide (T1.out.next b2)
      clear K1 X1 Z1 T1
      have B2 := hide O
      clear b2 O
      refine hK.out _ _ (flat _ X2.out) (fun hHeld2 => ?_)
      clear hK K hHeld
      have hHeld := hHeld2
      clear hHeld2
      simp only [List.setIfInBounds_toArray, List.set_cons_succ, List.set_cons_zero]
      refine wpAnyH_ready (rs := [5, 10]) (by kernel_rfl) (by simp) ?_
      refine AllReadyH.cons rfl (fun K hK => ?_) (AllReadyH.cons rfl (fun K hK => ?_) AllReadyH.nil)
      · go_simp
        refine (HL.out _ K2.out).mono ?_
        rintro e w3 ⟨⟨gL, cL, tsL, rfl, mL, rL, pL, lgL, lcL, lmL⟩, b3⟩
        have vwL := vw_of_rowV mL rL pL lgL lcL lmL
        have K3 := hide (K2.out.trans (b3.mono (by have := K2.out.size; omega)))
        have X3 := hide (X2.out.next b3)
        have Z3 := hide (Z2.out.next b3)
        have y3 := b3.size
        have T3 := hide (T2.out.next b3)
        have B3 := hide (B2.out.next b3)
        clear K2 X2 Z2 T2 B2
        have L3 := hide vwL
        clear b3 mL rL pL lgL lcL lmL vwL HL
        refine hK.out _ _ (flat _ X3.out) (fun hHeld2 => ?_)
        clear hK K hHeld
        have hHeld := hHeld2
        clear hHeld2
        simp only [List.setIfInBounds_toArray, List.set_cons_succ, List.set_cons_zero]
        refine wpAnyH_ready (rs := [10]) (by kernel_rfl) (by simp) ?_
        refine AllReadyH.cons rfl (fun K hK => ?_) AllReadyH.nil
        go_simp
        have O := OwnG.made (tE := 3) (K := 1) (cs := ci) w3 N (by have := K3.out.size; omega)
        have b4 := (Below.refl w3.heap.size w3).alloc (Nat.le_refl _) (Obj.cells #[] 3)
        have q4 : w3.heap.size < (w3.alloc (Obj.cells #[] 3)).heap.size := by simp
        obtain ⟨w4, hw4⟩ : ∃ X, w3.alloc (Obj.cells #[] 3) = X := ⟨_, rfl⟩
        rw [hw4] at O b4 q4 ⊢
        clear hw4
        obtain ⟨gA, hgA⟩ : ∃ g, w3.heap.size = g := ⟨_, rfl⟩
        have lA1 : w3.heap.size ≤ gA := Nat.le_of_eq hgA
        have lA2 : gA ≤ w3.heap.size := Nat.le_of_eq hgA.symm
        rw [hgA] at O q4 ⊢
        have b4 : Below w3.heap.size w3 w4 := by rw [hgA]; rw [hgA] at b4; exact b4
        clear hgA
        have K4 := hide (K3.out.trans (b4.mono (by have := K3.out.size; omega)))
        have X4 := hide (X3.out.next b4)
        have Z4 := hide (Z3.out.next b4)
        have y4 := b4.size
        have T4 := hide (T3.out.next b4)
        have B4 := hide (B3.out.next b4)
        have L4 := hide (L3.out.next b4)
        clear K3 X3 Z3 T3 B3 L3
        have A4 := hide O
        clear b4 O
        refine hK.out _ _ (flat _ X4.out) (fun hHeld2 => ?_)
        clear hK K hHeld
        have hHeld := hHeld2
        clear hHeld2
        simp only [List.setIfInBounds_toArray, List.set_cons_succ, List.set_cons_zero]
        refine wpAnyH_ready (rs := [13]) (by kernel_rfl) (by simp) ?_
        refine AllReadyH.cons rfl (fun K hK => ?_) AllReadyH.nil
        refine step_append_ints0 rfl _ _ rfl N gA (by first | rfl | (simp [Act.eval])) A4.out N da x.dr dc (by first | rfl | (simp [Act.eval])) (HD.out _ K4.out) HDn.out HDl.out (by have := K4.out.size; omega) ?_
        intro pD cD w5 O b5 hatD
        have sD : pD < w5.heap.size := (World.ownsRow.lt O pD rfl).2
        clear A4
        have K5 := hide (K4.out.trans (b5.mono (by have := K4.out.size; omega)))
        have X5 := hide (X4.out.next b5)
        have Z5 := hide (Z4.out.next b5)
        have y5 := b5.size
        have T5 := hide (T4.out.next b5)
        have B5 := hide (B4.out.next b5)
        have L5 := hide (L4.out.next b5)
        clear K4 X4 Z4 T4 B4 L4
        have D5 := hide O
        clear b5 O
        refine hK.out _ _ (flat _ X5.out) (fun hHeld2 => ?_)
        clear hK K hHeld
        have hHeld := hHeld2
        clear hHeld2
        simp only [List.setIfInBounds_toArray, List.set_cons_succ, List.set_cons_zero]
        refine wpAnyH_ready (rs := [17]) (by kernel_rfl) (by simp) ?_
        refine AllReadyH.cons rfl (fun K hK => ?_) AllReadyH.nil
        refine step_append_ints0 rfl _ _ rfl N gB (by first | rfl | (simp [Act.eval])) B5.out N ua x.us uc (by first | rfl | (simp [Act.eval])) (HU.out _ K5.out) HUn.out HUl.out (by have := K5.out.size; omega) ?_
        intro pU cU w6 O b6 hatU
        have sU : pU < w6.heap.size := (World.ownsRow.lt O pU rfl).2
        clear B5
        have K6 := hide (K5.out.trans (b6.mono (by have := K5.out.size; omega)))
        have X6 := hide (X5.out.next b6)
        have Z6 := hide (Z5.out.next b6)
        have y6 := b6.size
        have T6 := hide (T5.out.next b6)
        have L6 := hide (L5.out.next b6)
        have D6 := hide (D5.out.next b6)
        clear K5 X5 Z5 T5 L5 D5
        have U6 := hide O
        clear b6 O
        refine hK.out _ _ (flat _ X6.out) (fun hHeld2 => ?_)
        clear hK K hHeld
        have hHeld := hHeld2
        clear hHeld2
        simp only [List.setIfInBounds_toArray, List.set_cons_succ, List.set_cons_zero]
        refine wpAnyH_take (i := 18) (v := ?_) rfl (by kernel_rfl) (by kernel_rfl) (by kernel_rfl) (fun _ _ _ h => h) (Or.inl ⟨by rfl, ?_⟩) (by assumption) ?_
        rotate_left
        · intro w hSw; (try dsimp only at hSw); go_simp; try with_reducible rfl
        simp only [Act.put, List.getElem_toArray, List.getElem_cons_succ, List.getElem_cons_zero, List.setIfInBounds_toArray, List.set_cons_succ, List.set_cons_zero]
        refine wpAnyH_ready (rs := [19]) (by kernel_rfl) (by simp) ?_
        refine AllReadyH.cons rfl (fun K hK => ?_) AllReadyH.nil
        obtain ⟨d0, f0⟩ := Z6.out.2 0 _ rfl
        obtain ⟨d1, f1⟩ := Z6.out.2 1 _ rfl
        obtain ⟨d2, f2⟩ := Z6.out.2 2 _ rfl
        obtain ⟨d3, f3⟩ := Z6.out.2 3 _ rfl
        obtain ⟨d4, f4⟩ := Z6.out.2 4 _ rfl
        obtain ⟨d5, f5⟩ := Z6.out.2 5 _ rfl
        go_simp
        clear d0 f0 d1 f1 d2 f2 d3 f3 d4 f4 d5 f5
        have XE := hide ((((((X6.out.other ⟨N + 1, 0, none⟩ (.slice (some ⟨pT, 0, none⟩) x.t.length cT) (by show N + 1 ≠ N; omega)).other ⟨N + 1, 1, none⟩ (.slice (some ⟨gL, 0, none⟩) x.l.length cL) (by show N + 1 ≠ N; omega)).other ⟨N + 1, 2, none⟩ (.int .i64 x.now) (by show N + 1 ≠ N; omega)).other ⟨N + 1, 3, none⟩ (.int .i64 x.ver) (by show N + 1 ≠ N; omega)).other ⟨N + 1, 4, none⟩ (.slice (some ⟨pD, 0, none⟩) x.dr.length cD) (by show N + 1 ≠ N; omega)).other ⟨N + 1, 5, none⟩ (.slice (some ⟨pU, 0, none⟩) x.us.length cU) (by show N + 1 ≠ N; omega))
        have ZE := hide (show BoxV ((((((w6.setCell ⟨N + 1, 0, none⟩ (.slice (some ⟨pT, 0, none⟩) x.t.length cT)).setCell ⟨N + 1, 1, none⟩ (.slice (some ⟨gL, 0, none⟩) x.l.length cL)).setCell ⟨N + 1, 2, none⟩ (.int .i64 x.now)).setCell ⟨N + 1, 3, none⟩ (.int .i64 x.ver)).setCell ⟨N + 1, 4, none⟩ (.slice (some ⟨pD, 0, none⟩) x.dr.length cD)).setCell ⟨N + 1, 5, none⟩ (.slice (some ⟨pU, 0, none⟩) x.us.length cU)) (N + 1) [.slice (some ⟨pT, 0, none⟩) x.t.length cT, .slice (some ⟨gL, 0, none⟩) x.l.length cL, .int .i64 x.now, .int .i64 x.ver, .slice (some ⟨pD, 0, none⟩) x.dr.length cD, .slice (some ⟨pU, 0, none⟩) x.us.length cU] from ((((((Z6.out.set 0 (by simp) (.slice (some ⟨pT, 0, none⟩) x.t.length cT)).set 1 (by simp) (.slice (some ⟨gL, 0, none⟩) x.l.length cL)).set 2 (by simp) (.int .i64 x.now)).set 3 (by simp) (.int .i64 x.ver)).set 4 (by simp) (.slice (some ⟨pD, 0, none⟩) x.dr.length cD)).set 5 (by simp) (.slice (some ⟨pU, 0, none⟩) x.us.length cU)))
        have KE := hide ((((((K6.out.setCell (p := ⟨N + 1, 0, none⟩) (by show N ≤ N + 1; omega) (.slice (some ⟨pT, 0, none⟩) x.t.length cT)).setCell (p := ⟨N + 1, 1, none⟩) (by show N ≤ N + 1; omega) (.slice (some ⟨gL, 0, none⟩) x.l.length cL)).setCell (p := ⟨N + 1, 2, none⟩) (by show N ≤ N + 1; omega) (.int .i64 x.now)).setCell (p := ⟨N + 1, 3, none⟩) (by show N ≤ N + 1; omega) (.int .i64 x.ver)).setCell (p := ⟨N + 1, 4, none⟩) (by show N ≤ N + 1; omega) (.slice (some ⟨pD, 0, none⟩) x.dr.length cD)).setCell (p := ⟨N + 1, 5, none⟩) (by show N ≤ N + 1; omega) (.slice (some ⟨pU, 0, none⟩) x.us.length cU))
        have TE := hide ((((((T6.out.setCell ⟨N + 1, 0, none⟩ (.slice (some ⟨pT, 0, none⟩) x.t.length cT) (.inl (by show N + 1 < _; omega))).setCell ⟨N + 1, 1, none⟩ (.slice (some ⟨gL, 0, none⟩) x.l.length cL) (.inl (by show N + 1 < _; omega))).setCell ⟨N + 1, 2, none⟩ (.int .i64 x.now) (.inl (by show N + 1 < _; omega))).setCell ⟨N + 1, 3, none⟩ (.int .i64 x.ver) (.inl (by show N + 1 < _; omega))).setCell ⟨N + 1, 4, none⟩ (.slice (some ⟨pD, 0, none⟩) x.dr.length cD) (.inl (by show N + 1 < _; omega))).setCell ⟨N + 1, 5, none⟩ (.slice (some ⟨pU, 0, none⟩) x.us.length cU) (.inl (by show N + 1 < _; omega)))
        have LE := hide ((((((L6.out.setCell ⟨N + 1, 0, none⟩ (.slice (some ⟨pT, 0, none⟩) x.t.length cT) (.inl (by show N + 1 < _; omega))).setCell ⟨N + 1, 1, none⟩ (.slice (some ⟨gL, 0, none⟩) x.l.length cL) (.inl (by show N + 1 < _; omega))).setCell ⟨N + 1, 2, none⟩ (.int .i64 x.now) (.inl (by show N + 1 < _; omega))).setCell ⟨N + 1, 3, none⟩ (.int .i64 x.ver) (.inl (by show N + 1 < _; omega))).setCell ⟨N + 1, 4, none⟩ (.slice (some ⟨pD, 0, none⟩) x.dr.length cD) (.inl (by show N + 1 < _; omega))).setCell ⟨N + 1, 5, none⟩ (.slice (some ⟨pU, 0, none⟩) x.us.length cU) (.inl (by show N + 1 < _; omega)))
        have DE := hide ((((((D6.out.keepB (Below.heap_setCell _ ⟨N + 1, 0, none⟩ (.slice (some ⟨pT, 0, none⟩) x.t.length cT) _ (by show pD ≠ N + 1; omega))).keepB (Below.heap_setCell _ ⟨N + 1, 1, none⟩ (.slice (some ⟨gL, 0, none⟩) x.l.length cL) _ (by show pD ≠ N + 1; omega))).keepB (Below.heap_setCell _ ⟨N + 1, 2, none⟩ (.int .i64 x.now) _ (by show pD ≠ N + 1; omega))).keepB (Below.heap_setCell _ ⟨N + 1, 3, none⟩ (.int .i64 x.ver) _ (by show pD ≠ N + 1; omega))).keepB (Below.heap_setCell _ ⟨N + 1, 4, none⟩ (.slice (some ⟨pD, 0, none⟩) x.dr.length cD) _ (by show pD ≠ N + 1; omega))).keepB (Below.heap_setCell _ ⟨N + 1, 5, none⟩ (.slice (some ⟨pU, 0, none⟩) x.us.length cU) _ (by show pD ≠ N + 1; omega)))
        have UE := hide ((((((U6.out.keepB (Below.heap_setCell _ ⟨N + 1, 0, none⟩ (.slice (some ⟨pT, 0, none⟩) x.t.length cT) _ (by show pU ≠ N + 1; omega))).keepB (Below.heap_setCell _ ⟨N + 1, 1, none⟩ (.slice (some ⟨gL, 0, none⟩) x.l.length cL) _ (by show pU ≠ N + 1; omega))).keepB (Below.heap_setCell _ ⟨N + 1, 2, none⟩ (.int .i64 x.now) _ (by show pU ≠ N + 1; omega))).keepB (Below.heap_setCell _ ⟨N + 1, 3, none⟩ (.int .i64 x.ver) _ (by show pU ≠ N + 1; omega))).keepB (Below.heap_setCell _ ⟨N + 1, 4, none⟩ (.slice (some ⟨pD, 0, none⟩) x.dr.length cD) _ (by show pU ≠ N + 1; omega))).keepB (Below.heap_setCell _ ⟨N + 1, 5, none⟩ (.slice (some ⟨pU, 0, none⟩) x.us.length cU) _ (by show pU ≠ N + 1; omega)))
        refine hK.out _ _ (flat _ XE.out) (fun hHeld2 => ?_)
        clear hK K hHeld
        have hHeld := hHeld2
        clear hHeld2
        simp only [List.setIfInBounds_toArray, List.set_cons_succ, List.set_cons_zero]
        refine wpAnyH_done (by kernel_rfl) ?_ _
        clear hHeld
        have r0 := (ZE.out.2 0 _ rfl).1
        have r1 := (ZE.out.2 1 _ rfl).1
        have r2 := (ZE.out.2 2 _ rfl).1
        have r3 := (ZE.out.2 3 _ rfl).1
        have r4 := (ZE.out.2 4 _ rfl).1
        have r5 := (ZE.out.2 5 _ rfl).1
        go_wp2
        refine bodyPost_ret (v := .agg #[.slice (some ⟨pT, 0, none⟩) x.t.length cT, .slice (some ⟨gL, 0, none⟩) x.l.length cL, .int .i64 x.now, .int .i64 x.ver, .slice (some ⟨pD, 0, none⟩) x.dr.length cD, .slice (some ⟨pU, 0, none⟩) x.us.length cU]) (by simp [results, Tryz.results37, go_sem, r0, r1, r2, r3, r4, r5]) rfl ⟨⟨pT, cT, gL, cL, pD, cD, pU, cU, _, _, _, _, rfl, TE.out, LE.out, DE.out.low hN2, UE.out.low hN2, ?_, ?_, ?_, ?_, ?_, ?_, ?_, ?_⟩, KE.out.mono hN2⟩
        all_goals omega
      · go_simp
        have O := OwnG.made (tE := 3) (K := 1) (cs := ci) w2 N (by have := K2.out.size; omega)
        have b3 := (Below.refl w2.heap.size w2).alloc (Nat.le_refl _) (Obj.cells #[] 3)
        have q3 : w2.heap.size < (w2.alloc (Obj.cells #[] 3)).heap.size := by simp
        obtain ⟨w3, hw3⟩ : ∃ X, w2.alloc (Obj.cells #[] 3) = X := ⟨_, rfl⟩
        rw [hw3] at O b3 q3 ⊢
        clear hw3
        obtain ⟨gA, hgA⟩ : ∃ g, w2.heap.size = g := ⟨_, rfl⟩
        have lA1 : w2.heap.size ≤ gA := Nat.le_of_eq hgA
        have lA2 : gA ≤ w2.heap.size := Nat.le_of_eq hgA.symm
        rw [hgA] at O q3 ⊢
        have b3 : Below w2.heap.size w2 w3 := by rw [hgA]; rw [hgA] at b3; exact b3
        clear hgA
        have K3 := hide (K2.out.trans (b3.mono (by have := K2.out.size; omega)))
        have X3 := hide (X2.out.next b3)
        have Z3 := hide (Z2.out.next b3)
        have y3 := b3.size
        have T3 := hide (T2.out.next b3)
        have B3 := hide (B2.out.next b3)
        clear K2 X2 Z2 T2 B2
        have A3 := hide O
        clear b3 O
        refine hK.out _ _ (flat _ X3.out) (fun hHeld2 => ?_)
        clear hK K hHeld
        have hHeld := hHeld2
        clear hHeld2
        simp only [List.setIfInBounds_toArray, List.set_cons_succ, List.set_cons_zero]
        refine wpAnyH_ready (rs := [5]) (by kernel_rfl) (by simp) ?_
        refine AllReadyH.cons rfl (fun K hK => ?_) AllReadyH.nil
        go_simp
        refine (HL.out _ K3.out).mono ?_
        rintro e w4 ⟨⟨gL, cL, tsL, rfl, mL, rL, pL, lgL, lcL, lmL⟩, b4⟩
        have vwL := vw_of_rowV mL rL pL lgL lcL lmL
        have K4 := hide (K3.out.trans (b4.mono (by have := K3.out.size; omega)))
        have X4 := hide (X3.out.next b4)
        have Z4 := hide (Z3.out.next b4)
        have y4 := b4.size
        have T4 := hide (T3.out.next b4)
        have B4 := hide (B3.out.next b4)
        have A4 := hide (A3.out.next b4)
        clear K3 X3 Z3 T3 B3 A3
        have L4 := hide vwL
        clear b4 mL rL pL lgL lcL lmL vwL HL
        refine hK.out _ _ (flat _ X4.out) (fun hHeld2 => ?_)
        clear hK K hHeld
        have hHeld := hHeld2
        clear hHeld2
        simp only [List.setIfInBounds_toArray, List.set_cons_succ, List.set_cons_zero]
        refine wpAnyH_ready (rs := [13]) (by kernel_rfl) (by simp) ?_
        refine AllReadyH.cons rfl (fun K hK => ?_) AllReadyH.nil
        refine step_append_ints0 rfl _ _ rfl N gA (by first | rfl | (simp [Act.eval])) A4.out N da x.dr dc (by first | rfl | (simp [Act.eval])) (HD.out _ K4.out) HDn.out HDl.out (by have := K4.out.size; omega) ?_
        intro pD cD w5 O b5 hatD
        have sD : pD < w5.heap.size := (World.ownsRow.lt O pD rfl).2
        clear A4
        have K5 := hide (K4.out.trans (b5.mono (by have := K4.out.size; omega)))
        have X5 := hide (X4.out.next b5)
        have Z5 := hide (Z4.out.next b5)
        have y5 := b5.size
        have T5 := hide (T4.out.next b5)
        have B5 := hide (B4.out.next b5)
        have L5 := hide (L4.out.next b5)
        clear K4 X4 Z4 T4 B4 L4
        have D5 := hide O
        clear b5 O
        refine hK.out _ _ (flat _ X5.out) (fun hHeld2 => ?_)
        clear hK K hHeld
        have hHeld := hHeld2
        clear hHeld2
        simp only [List.setIfInBounds_toArray, List.set_cons_succ, List.set_cons_zero]
        refine wpAnyH_ready (rs := [17]) (by kernel_rfl) (by simp) ?_
        refine AllReadyH.cons rfl (fun K hK => ?_) AllReadyH.nil
        refine step_append_ints0 rfl _ _ rfl N gB (by first | rfl | (simp [Act.eval])) B5.out N ua x.us uc (by first | rfl | (simp [Act.eval])) (HU.out _ K5.out) HUn.out HUl.out (by have := K5.out.size; omega) ?_
        intro pU cU w6 O b6 hatU
        have sU : pU < w6.heap.size := (World.ownsRow.lt O pU rfl).2
        clear B5
        have K6 := hide (K5.out.trans (b6.mono (by have := K5.out.size; omega)))
        have X6 := hide (X5.out.next b6)
        have Z6 := hide (Z5.out.next b6)
        have y6 := b6.size
        have T6 := hide (T5.out.next b6)
        have L6 := hide (L5.out.next b6)
        have D6 := hide (D5.out.next b6)
        clear K5 X5 Z5 T5 L5 D5
        have U6 := hide O
        clear b6 O
        refine hK.out _ _ (flat _ X6.out) (fun hHeld2 => ?_)
        clear hK K hHeld
        have hHeld := hHeld2
        clear hHeld2
        simp only [List.setIfInBounds_toArray, List.set_cons_succ, List.set_cons_zero]
        refine wpAnyH_take (i := 18) (v := ?_) rfl (by kernel_rfl) (by kernel_rfl) (by kernel_rfl) (fun _ _ _ h => h) (Or.inl ⟨by rfl, ?_⟩) (by assumption) ?_
        rotate_left
        · intro w hSw; (try dsimp only at hSw); go_simp; try with_reducible rfl
        simp only [Act.put, List.getElem_toArray, List.getElem_cons_succ, List.getElem_cons_zero, List.setIfInBounds_toArray, List.set_cons_succ, List.set_cons_zero]
        refine wpAnyH_ready (rs := [19]) (by kernel_rfl) (by simp) ?_
        refine AllReadyH.cons rfl (fun K hK => ?_) AllReadyH.nil
        obtain ⟨d0, f0⟩ := Z6.out.2 0 _ rfl
        obtain ⟨d1, f1⟩ := Z6.out.2 1 _ rfl
        obtain ⟨d2, f2⟩ := Z6.out.2 2 _ rfl
        obtain ⟨d3, f3⟩ := Z6.out.2 3 _ rfl
        obtain ⟨d4, f4⟩ := Z6.out.2 4 _ rfl
        obtain ⟨d5, f5⟩ := Z6.out.2 5 _ rfl
        go_simp
        clear d0 f0 d1 f1 d2 f2 d3 f3 d4 f4 d5 f5
        have XE := hide ((((((X6.out.other ⟨N + 1, 0, none⟩ (.slice (some ⟨pT, 0, none⟩) x.t.length cT) (by show N + 1 ≠ N; omega)).other ⟨N + 1, 1, none⟩ (.slice (some ⟨gL, 0, none⟩) x.l.length cL) (by show N + 1 ≠ N; omega)).other ⟨N + 1, 2, none⟩ (.int .i64 x.now) (by show N + 1 ≠ N; omega)).other ⟨N + 1, 3, none⟩ (.int .i64 x.ver) (by show N + 1 ≠ N; omega)).other ⟨N + 1, 4, none⟩ (.slice (some ⟨pD, 0, none⟩) x.dr.length cD) (by show N + 1 ≠ N; omega)).other ⟨N + 1, 5, none⟩ (.slice (some ⟨pU, 0, none⟩) x.us.length cU) (by show N + 1 ≠ N; omega))
        have ZE := hide (show BoxV ((((((w6.setCell ⟨N + 1, 0, none⟩ (.slice (some ⟨pT, 0, none⟩) x.t.length cT)).setCell ⟨N + 1, 1, none⟩ (.slice (some ⟨gL, 0, none⟩) x.l.length cL)).setCell ⟨N + 1, 2, none⟩ (.int .i64 x.now)).setCell ⟨N + 1, 3, none⟩ (.int .i64 x.ver)).setCell ⟨N + 1, 4, none⟩ (.slice (some ⟨pD, 0, none⟩) x.dr.length cD)).setCell ⟨N + 1, 5, none⟩ (.slice (some ⟨pU, 0, none⟩) x.us.length cU)) (N + 1) [.slice (some ⟨pT, 0, none⟩) x.t.length cT, .slice (some ⟨gL, 0, none⟩) x.l.length cL, .int .i64 x.now, .int .i64 x.ver, .slice (some ⟨pD, 0, none⟩) x.dr.length cD, .slice (some ⟨pU, 0, none⟩) x.us.length cU] from ((((((Z6.out.set 0 (by simp) (.slice (some ⟨pT, 0, none⟩) x.t.length cT)).set 1 (by simp) (.slice (some ⟨gL, 0, none⟩) x.l.length cL)).set 2 (by simp) (.int .i64 x.now)).set 3 (by simp) (.int .i64 x.ver)).set 4 (by simp) (.slice (some ⟨pD, 0, none⟩) x.dr.length cD)).set 5 (by simp) (.slice (some ⟨pU, 0, none⟩) x.us.length cU)))
        have KE := hide ((((((K6.out.setCell (p := ⟨N + 1, 0, none⟩) (by show N ≤ N + 1; omega) (.slice (some ⟨pT, 0, none⟩) x.t.length cT)).setCell (p := ⟨N + 1, 1, none⟩) (by show N ≤ N + 1; omega) (.slice (some ⟨gL, 0, none⟩) x.l.length cL)).setCell (p := ⟨N + 1, 2, none⟩) (by show N ≤ N + 1; omega) (.int .i64 x.now)).setCell (p := ⟨N + 1, 3, none⟩) (by show N ≤ N + 1; omega) (.int .i64 x.ver)).setCell (p := ⟨N + 1, 4, none⟩) (by show N ≤ N + 1; omega) (.slice (some ⟨pD, 0, none⟩) x.dr.length cD)).setCell (p := ⟨N + 1, 5, none⟩) (by show N ≤ N + 1; omega) (.slice (some ⟨pU, 0, none⟩) x.us.length cU))
        have TE := hide ((((((T6.out.setCell ⟨N + 1, 0, none⟩ (.slice (some ⟨pT, 0, none⟩) x.t.length cT) (.inl (by show N + 1 < _; omega))).setCell ⟨N + 1, 1, none⟩ (.slice (some ⟨gL, 0, none⟩) x.l.length cL) (.inl (by show N + 1 < _; omega))).setCell ⟨N + 1, 2, none⟩ (.int .i64 x.now) (.inl (by show N + 1 < _; omega))).setCell ⟨N + 1, 3, none⟩ (.int .i64 x.ver) (.inl (by show N + 1 < _; omega))).setCell ⟨N + 1, 4, none⟩ (.slice (some ⟨pD, 0, none⟩) x.dr.length cD) (.inl (by show N + 1 < _; omega))).setCell ⟨N + 1, 5, none⟩ (.slice (some ⟨pU, 0, none⟩) x.us.length cU) (.inl (by show N + 1 < _; omega)))
        have LE := hide ((((((L6.out.setCell ⟨N + 1, 0, none⟩ (.slice (some ⟨pT, 0, none⟩) x.t.length cT) (.inl (by show N + 1 < _; omega))).setCell ⟨N + 1, 1, none⟩ (.slice (some ⟨gL, 0, none⟩) x.l.length cL) (.inl (by show N + 1 < _; omega))).setCell ⟨N + 1, 2, none⟩ (.int .i64 x.now) (.inl (by show N + 1 < _; omega))).setCell ⟨N + 1, 3, none⟩ (.int .i64 x.ver) (.inl (by show N + 1 < _; omega))).setCell ⟨N + 1, 4, none⟩ (.slice (some ⟨pD, 0, none⟩) x.dr.length cD) (.inl (by show N + 1 < _; omega))).setCell ⟨N + 1, 5, none⟩ (.slice (some ⟨pU, 0, none⟩) x.us.length cU) (.inl (by show N + 1 < _; omega)))
        have DE := hide ((((((D6.out.keepB (Below.heap_setCell _ ⟨N + 1, 0, none⟩ (.slice (some ⟨pT, 0, none⟩) x.t.length cT) _ (by show pD ≠ N + 1; omega))).keepB (Below.heap_setCell _ ⟨N + 1, 1, none⟩ (.slice (some ⟨gL, 0, none⟩) x.l.length cL) _ (by show pD ≠ N + 1; omega))).keepB (Below.heap_setCell _ ⟨N + 1, 2, none⟩ (.int .i64 x.now) _ (by show pD ≠ N + 1; omega))).keepB (Below.heap_setCell _ ⟨N + 1, 3, none⟩ (.int .i64 x.ver) _ (by show pD ≠ N + 1; omega))).keepB (Below.heap_setCell _ ⟨N + 1, 4, none⟩ (.slice (some ⟨pD, 0, none⟩) x.dr.length cD) _ (by show pD ≠ N + 1; omega))).keepB (Below.heap_setCell _ ⟨N + 1, 5, none⟩ (.slice (some ⟨pU, 0, none⟩) x.us.length cU) _ (by show pD ≠ N + 1; omega)))
        have UE := hide ((((((U6.out.keepB (Below.heap_setCell _ ⟨N + 1, 0, none⟩ (.slice (some ⟨pT, 0, none⟩) x.t.length cT) _ (by show pU ≠ N + 1; omega))).keepB (Below.heap_setCell _ ⟨N + 1, 1, none⟩ (.slice (some ⟨gL, 0, none⟩) x.l.length cL) _ (by show pU ≠ N + 1; omega))).keepB (Below.heap_setCell _ ⟨N + 1, 2, none⟩ (.int .i64 x.now) _ (by show pU ≠ N + 1; omega))).keepB (Below.heap_setCell _ ⟨N + 1, 3, none⟩ (.int .i64 x.ver) _ (by show pU ≠ N + 1; omega))).keepB (Below.heap_setCell _ ⟨N + 1, 4, none⟩ (.slice (some ⟨pD, 0, none⟩) x.dr.length cD) _ (by show pU ≠ N + 1; omega))).keepB (Below.heap_setCell _ ⟨N + 1, 5, none⟩ (.slice (some ⟨pU, 0, none⟩) x.us.length cU) _ (by show pU ≠ N + 1; omega)))
        refine hK.out _ _ (flat _ XE.out) (fun hHeld2 => ?_)
        clear hK K hHeld
        have hHeld := hHeld2
        clear hHeld2
        simp only [List.setIfInBounds_toArray, List.set_cons_succ, List.set_cons_zero]
        refine wpAnyH_done (by kernel_rfl) ?_ _
        clear hHeld
        have r0 := (ZE.out.2 0 _ rfl).1
        have r1 := (ZE.out.2 1 _ rfl).1
        have r2 := (ZE.out.2 2 _ rfl).1
        have r3 := (ZE.out.2 3 _ rfl).1
        have r4 := (ZE.out.2 4 _ rfl).1
        have r5 := (ZE.out.2 5 _ rfl).1
        go_wp2
        refine bodyPost_ret (v := .agg #[.slice (some ⟨pT, 0, none⟩) x.t.length cT, .slice (some ⟨gL, 0, none⟩) x.l.length cL, .int .i64 x.now, .int .i64 x.ver, .slice (some ⟨pD, 0, none⟩) x.dr.length cD, .slice (some ⟨pU, 0, none⟩) x.us.length cU]) (by simp [results, Tryz.results37, go_sem, r0, r1, r2, r3, r4, r5]) rfl ⟨⟨pT, cT, gL, cL, pD, cD, pU, cU, _, _, _, _, rfl, TE.out, LE.out, DE.out.low hN2, UE.out.low hN2, ?_, ?_, ?_, ?_, ?_, ?_, ?_, ?_⟩, KE.out.mono hN2⟩
        all_goals omega
  · go_simp
    have O := OwnG.made (tE := 3) (K := 1) (cs := ci) w0 N (by have := K0.out.size; omega)
    have b1 := (Below.refl w0.heap.size w0).alloc (Nat.le_refl _) (Obj.cells #[] 3)
    have q1 : w0.heap.size < (w0.alloc (Obj.cells #[] 3)).heap.size := by simp
    obtain ⟨w1, hw1⟩ : ∃ X, w0.alloc (Obj.cells #[] 3) = X := ⟨_, rfl⟩
    rw [hw1] at O b1 q1 ⊢
    clear hw1
    obtain ⟨gA, hgA⟩ : ∃ g, w0.heap.size = g := ⟨_, rfl⟩
    have lA1 : w0.heap.size ≤ gA := Nat.le_of_eq hgA
    have lA2 : gA ≤ w0.heap.size := Nat.le_of_eq hgA.symm
    rw [hgA] at O q1 ⊢
    have b1 : Below w0.heap.size w0 w1 := by rw [hgA]; rw [hgA] at b1; exact b1
    clear hgA
    have K1 := hide (K0.out.trans (b1.mono (by have := K0.out.size; omega)))
    have X1 := hide (X0.out.next b1)
    have Z1 := hide (Z0.out.next b1)
    have y1 := b1.size
    clear K0 X0 Z0
    have A1 := hide O
    clear b1 O
    refine hK.out _ _ (flat _ X1.out) (fun hHeld2 => ?_)
    clear hK K hHeld
    have hHeld := hHeld2
    clear hHeld2
    simp only [List.setIfInBounds_toArray, List.set_cons_succ, List.set_cons_zero]
    refine wpAnyH_ready (rs := [2, 14]) (by kernel_rfl) (by simp) ?_
    refine AllReadyH.cons rfl (fun K hK => ?_) (AllReadyH.cons rfl (fun K hK => ?_) AllReadyH.nil)
    · go_simp
      refine (HT.out _ K1.out).mono ?_
      rintro e w2 ⟨⟨vT, tsT, rfl, gT, mT⟩, b2⟩
      obtain ⟨⟨pT, cT, eT⟩, vwT⟩ := vw_of_grow gT mT
      subst eT
      have K2 := hide (K1.out.trans (b2.mono (by have := K1.out.size; omega)))
      have X2 := hide (X1.out.next b2)
      have Z2 := hide (Z1.out.next b2)
      have y2 := b2.size
      have A2 := hide (A1.out.next b2)
      clear K1 X1 Z1 A1
      have T2 := hide vwT
      clear b2 gT mT vwT HT
      refine hK.out _ _ (flat _ X2.out) (fun hHeld2 => ?_)
      clear hK K hHeld
      have hHeld := hHeld2
      clear hHeld2
      simp only [List.setIfInBounds_toArray, List.set_cons_succ, List.set_cons_zero]
      refine wpAnyH_ready (rs := [5, 14]) (by kernel_rfl) (by simp) ?_
      refine AllReadyH.cons rfl (fun K hK => ?_) (AllReadyH.cons rfl (fun K hK => ?_) AllReadyH.nil)
      · go_simp
        refine (HL.out _ K2.out).mono ?_
        rintro e w3 ⟨⟨gL, cL, tsL, rfl, mL, rL, pL, lgL, lcL, lmL⟩, b3⟩
        have vwL := vw_of_rowV mL rL pL lgL lcL lmL
        have K3 := hide (K2.out.trans (b3.mono (by have := K2.out.size; omega)))
        have X3 := hide (X2.out.next b3)
        have Z3 := hide (Z2.out.next b3)
        have y3 := b3.size
        have A3 := hide (A2.out.next b3)
        have T3 := hide (T2.out.next b3)
        clear K2 X2 Z2 A2 T2
        have L3 := hide vwL
        clear b3 mL rL pL lgL lcL lmL vwL HL
        refine hK.out _ _ (flat _ X3.out) (fun hHeld2 => ?_)
        clear hK K hHeld
        have hHeld := hHeld2
        clear hHeld2
        simp only [List.setIfInBounds_toArray, List.set_cons_succ, List.set_cons_zero]
        refine wpAnyH_ready (rs := [13, 14]) (by kernel_rfl) (by simp) ?_
        refine AllReadyH.cons rfl (fun K hK => ?_) (AllReadyH.cons rfl (fun K hK => ?_) AllReadyH.nil)
        · refine step_append_ints0 rfl _ _ rfl N gA (by first | rfl | (simp [Act.eval])) A3.out N da x.dr dc (by first | rfl | (simp [Act.eval])) (HD.out _ K3.out) HDn.out HDl.out (by have := K3.out.size; omega) ?_
          intro pD cD w4 O b4 hatD
          have sD : pD < w4.heap.size := (World.ownsRow.lt O pD rfl).2
          clear A3
          have K4 := hide (K3.out.trans (b4.mono (by have := K3.out.size; omega)))
          have X4 := hide (X3.out.next b4)
          have Z4 := hide (Z3.out.next b4)
          have y4 := b4.size
          have T4 := hide (T3.out.next b4)
          have L4 := hide (L3.out.next b4)
          clear K3 X3 Z3 T3 L3
          have D4 := hide O
          clear b4 O
          refine hK.out _ _ (flat _ X4.out) (fun hHeld2 => ?_)
          clear hK K hHeld
          have hHeld := hHeld2
          clear hHeld2
          simp only [List.setIfInBounds_toArray, List.set_cons_succ, List.set_cons_zero]
          refine wpAnyH_ready (rs := [14]) (by kernel_rfl) (by simp) ?_
          refine AllReadyH.cons rfl (fun K hK => ?_) AllReadyH.nil
          go_simp
          have O := OwnG.made (tE := 3) (K := 1) (cs := ci) w4 N (by have := K4.out.size; omega)
          have b5 := (Below.refl w4.heap.size w4).alloc (Nat.le_refl _) (Obj.cells #[] 3)
          have q5 : w4.heap.size < (w4.alloc (Obj.cells #[] 3)).heap.size := by simp
          obtain ⟨w5, hw5⟩ : ∃ X, w4.alloc (Obj.cells #[] 3) = X := ⟨_, rfl⟩
          rw [hw5] at O b5 q5 ⊢
          clear hw5
          obtain ⟨gB, hgB⟩ : ∃ g, w4.heap.size = g := ⟨_, rfl⟩
          have lB1 : w4.heap.size ≤ gB := Nat.le_of_eq hgB
          have lB2 : gB ≤ w4.heap.size := Nat.le_of_eq hgB.symm
          rw [hgB] at O q5 ⊢
          have b5 : Below w4.heap.size w4 w5 := by rw [hgB]; rw [hgB] at b5; exact b5
          clear hgB
          have K5 := hide (K4.out.trans (b5.mono (by have := K4.out.size; omega)))
          have X5 := hide (X4.out.next b5)
          have Z5 := hide (Z4.out.next b5)
          have y5 := b5.size
          have T5 := hide (T4.out.next b5)
          have L5 := hide (L4.out.next b5)
          have D5 := hide (D4.out.next b5)
          clear K4 X4 Z4 T4 L4 D4
          have B5 := hide O
          clear b5 O
          refine hK.out _ _ (flat _ X5.out) (fun hHeld2 => ?_)
          clear hK K hHeld
          have hHeld := hHeld2
          clear hHeld2
          simp only [List.setIfInBounds_toArray, List.set_cons_succ, List.set_cons_zero]
          refine wpAnyH_ready (rs := [17]) (by kernel_rfl) (by simp) ?_
          refine AllReadyH.cons rfl (fun K hK => ?_) AllReadyH.nil
          refine step_append_ints0 rfl _ _ rfl N gB (by first | rfl | (simp [Act.eval])) B5.out N ua x.us uc (by first | rfl | (simp [Act.eval])) (HU.out _ K5.out) HUn.out HUl.out (by have := K5.out.size; omega) ?_
          intro pU cU w6 O b6 hatU
          have sU : pU < w6.heap.size := (World.ownsRow.lt O pU rfl).2
          clear B5
          have K6 := hide (K5.out.trans (b6.mono (by have := K5.out.size; omega)))
          have X6 := hide (X5.out.next b6)
          have Z6 := hide (Z5.out.next b6)
          have y6 := b6.size
          have T6 := hide (T5.out.next b6)
          have L6 := hide (L5.out.next b6)
          have D6 := hide (D5.out.next b6)
          clear K5 X5 Z5 T5 L5 D5
          have U6 := hide O
          clear b6 O
          refine hK.out _ _ (flat _ X6.out) (fun hHeld2 => ?_)
          clear hK K hHeld
          have hHeld := hHeld2
          clear hHeld2
          simp only [List.setIfInBounds_toArray, List.set_cons_succ, List.set_cons_zero]
          refine wpAnyH_take (i := 18) (v := ?_) rfl (by kernel_rfl) (by kernel_rfl) (by kernel_rfl) (fun _ _ _ h => h) (Or.inl ⟨by rfl, ?_⟩) (by assumption) ?_
          rotate_left
          · intro w hSw; (try dsimp only at hSw); go_simp; try with_reducible rfl
          simp only [Act.put, List.getElem_toArray, List.getElem_cons_succ, List.getElem_cons_zero, List.setIfInBounds_toArray, List.set_cons_succ, List.set_cons_zero]
          refine wpAnyH_ready (rs := [19]) (by kernel_rfl) (by simp) ?_
          refine AllReadyH.cons rfl (fun K hK => ?_) AllReadyH.nil
          obtain ⟨d0, f0⟩ := Z6.out.2 0 _ rfl
          obtain ⟨d1, f1⟩ := Z6.out.2 1 _ rfl
          obtain ⟨d2, f2⟩ := Z6.out.2 2 _ rfl
          obtain ⟨d3, f3⟩ := Z6.out.2 3 _ rfl
          obtain ⟨d4, f4⟩ := Z6.out.2 4 _ rfl
          obtain ⟨d5, f5⟩ := Z6.out.2 5 _ rfl
          go_simp
          clear d0 f0 d1 f1 d2 f2 d3 f3 d4 f4 d5 f5
          have XE := hide ((((((X6.out.other ⟨N + 1, 0, none⟩ (.slice (some ⟨pT, 0, none⟩) x.t.length cT) (by show N + 1 ≠ N; omega)).other ⟨N + 1, 1, none⟩ (.slice (some ⟨gL, 0, none⟩) x.l.length cL) (by show N + 1 ≠ N; omega)).other ⟨N + 1, 2, none⟩ (.int .i64 x.now) (by show N + 1 ≠ N; omega)).other ⟨N + 1, 3, none⟩ (.int .i64 x.ver) (by show N + 1 ≠ N; omega)).other ⟨N + 1, 4, none⟩ (.slice (some ⟨pD, 0, none⟩) x.dr.length cD) (by show N + 1 ≠ N; omega)).other ⟨N + 1, 5, none⟩ (.slice (some ⟨pU, 0, none⟩) x.us.length cU) (by show N + 1 ≠ N; omega))
          have ZE := hide (show BoxV ((((((w6.setCell ⟨N + 1, 0, none⟩ (.slice (some ⟨pT, 0, none⟩) x.t.length cT)).setCell ⟨N + 1, 1, none⟩ (.slice (some ⟨gL, 0, none⟩) x.l.length cL)).setCell ⟨N + 1, 2, none⟩ (.int .i64 x.now)).setCell ⟨N + 1, 3, none⟩ (.int .i64 x.ver)).setCell ⟨N + 1, 4, none⟩ (.slice (some ⟨pD, 0, none⟩) x.dr.length cD)).setCell ⟨N + 1, 5, none⟩ (.slice (some ⟨pU, 0, none⟩) x.us.length cU)) (N + 1) [.slice (some ⟨pT, 0, none⟩) x.t.length cT, .slice (some ⟨gL, 0, none⟩) x.l.length cL, .int .i64 x.now, .int .i64 x.ver, .slice (some ⟨pD, 0, none⟩) x.dr.length cD, .slice (some ⟨pU, 0, none⟩) x.us.length cU] from ((((((Z6.out.set 0 (by simp) (.slice (some ⟨pT, 0, none⟩) x.t.length cT)).set 1 (by simp) (.slice (some ⟨gL, 0, none⟩) x.l.length cL)).set 2 (by simp) (.int .i64 x.now)).set 3 (by simp) (.int .i64 x.ver)).set 4 (by simp) (.slice (some ⟨pD, 0, none⟩) x.dr.length cD)).set 5 (by simp) (.slice (some ⟨pU, 0, none⟩) x.us.length cU)))
          have KE := hide ((((((K6.out.setCell (p := ⟨N + 1, 0, none⟩) (by show N ≤ N + 1; omega) (.slice (some ⟨pT, 0, none⟩) x.t.length cT)).setCell (p := ⟨N + 1, 1, none⟩) (by show N ≤ N + 1; omega) (.slice (some ⟨gL, 0, none⟩) x.l.length cL)).setCell (p := ⟨N + 1, 2, none⟩) (by show N ≤ N + 1; omega) (.int .i64 x.now)).setCell (p := ⟨N + 1, 3, none⟩) (by show N ≤ N + 1; omega) (.int .i64 x.ver)).setCell (p := ⟨N + 1, 4, none⟩) (by show N ≤ N + 1; omega) (.slice (some ⟨pD, 0, none⟩) x.dr.length cD)).setCell (p := ⟨N + 1, 5, none⟩) (by show N ≤ N + 1; omega) (.slice (some ⟨pU, 0, none⟩) x.us.length cU))
          have TE := hide ((((((T6.out.setCell ⟨N + 1, 0, none⟩ (.slice (some ⟨pT, 0, none⟩) x.t.length cT) (.inl (by show N + 1 < _; omega))).setCell ⟨N + 1, 1, none⟩ (.slice (some ⟨gL, 0, none⟩) x.l.length cL) (.inl (by show N + 1 < _; omega))).setCell ⟨N + 1, 2, none⟩ (.int .i64 x.now) (.inl (by show N + 1 < _; omega))).setCell ⟨N + 1, 3, none⟩ (.int .i64 x.ver) (.inl (by show N + 1 < _; omega))).setCell ⟨N + 1, 4, none⟩ (.slice (some ⟨pD, 0, none⟩) x.dr.length cD) (.inl (by show N + 1 < _; omega))).setCell ⟨N + 1, 5, none⟩ (.slice (some ⟨pU, 0, none⟩) x.us.length cU) (.inl (by show N + 1 < _; omega)))
          have LE := hide ((((((L6.out.setCell ⟨N + 1, 0, none⟩ (.slice (some ⟨pT, 0, none⟩) x.t.length cT) (.inl (by show N + 1 < _; omega))).setCell ⟨N + 1, 1, none⟩ (.slice (some ⟨gL, 0, none⟩) x.l.length cL) (.inl (by show N + 1 < _; omega))).setCell ⟨N + 1, 2, none⟩ (.int .i64 x.now) (.inl (by show N + 1 < _; omega))).setCell ⟨N + 1, 3, none⟩ (.int .i64 x.ver) (.inl (by show N + 1 < _; omega))).setCell ⟨N + 1, 4, none⟩ (.slice (some ⟨pD, 0, none⟩) x.dr.length cD) (.inl (by show N + 1 < _; omega))).setCell ⟨N + 1, 5, none⟩ (.slice (some ⟨pU, 0, none⟩) x.us.length cU) (.inl (by show N + 1 < _; omega)))
          have DE := hide ((((((D6.out.keepB (Below.heap_setCell _ ⟨N + 1, 0, none⟩ (.slice (some ⟨pT, 0, none⟩) x.t.length cT) _ (by show pD ≠ N + 1; omega))).keepB (Below.heap_setCell _ ⟨N + 1, 1, none⟩ (.slice (some ⟨gL, 0, none⟩) x.l.length cL) _ (by show pD ≠ N + 1; omega))).keepB (Below.heap_setCell _ ⟨N + 1, 2, none⟩ (.int .i64 x.now) _ (by show pD ≠ N + 1; omega))).keepB (Below.heap_setCell _ ⟨N + 1, 3, none⟩ (.int .i64 x.ver) _ (by show pD ≠ N + 1; omega))).keepB (Below.heap_setCell _ ⟨N + 1, 4, none⟩ (.slice (some ⟨pD, 0, none⟩) x.dr.length cD) _ (by show pD ≠ N + 1; omega))).keepB (Below.heap_setCell _ ⟨N + 1, 5, none⟩ (.slice (some ⟨pU, 0, none⟩) x.us.length cU) _ (by show pD ≠ N + 1; omega)))
          have UE := hide ((((((U6.out.keepB (Below.heap_setCell _ ⟨N + 1, 0, none⟩ (.slice (some ⟨pT, 0, none⟩) x.t.length cT) _ (by show pU ≠ N + 1; omega))).keepB (Below.heap_setCell _ ⟨N + 1, 1, none⟩ (.slice (some ⟨gL, 0, none⟩) x.l.length cL) _ (by show pU ≠ N + 1; omega))).keepB (Below.heap_setCell _ ⟨N + 1, 2, none⟩ (.int .i64 x.now) _ (by show pU ≠ N + 1; omega))).keepB (Below.heap_setCell _ ⟨N + 1, 3, none⟩ (.int .i64 x.ver) _ (by show pU ≠ N + 1; omega))).keepB (Below.heap_setCell _ ⟨N + 1, 4, none⟩ (.slice (some ⟨pD, 0, none⟩) x.dr.length cD) _ (by show pU ≠ N + 1; omega))).keepB (Below.heap_setCell _ ⟨N + 1, 5, none⟩ (.slice (some ⟨pU, 0, none⟩) x.us.length cU) _ (by show pU ≠ N + 1; omega)))
          refine hK.out _ _ (flat _ XE.out) (fun hHeld2 => ?_)
          clear hK K hHeld
          have hHeld := hHeld2
          clear hHeld2
          simp only [List.setIfInBounds_toArray, List.set_cons_succ, List.set_cons_zero]
          refine wpAnyH_done (by kernel_rfl) ?_ _
          clear hHeld
          have r0 := (ZE.out.2 0 _ rfl).1
          have r1 := (ZE.out.2 1 _ rfl).1
          have r2 := (ZE.out.2 2 _ rfl).1
          have r3 := (ZE.out.2 3 _ rfl).1
          have r4 := (ZE.out.2 4 _ rfl).1
          have r5 := (ZE.out.2 5 _ rfl).1
          go_wp2
          refine bodyPost_ret (v := .agg #[.slice (some ⟨pT, 0, none⟩) x.t.length cT, .slice (some ⟨gL, 0, none⟩) x.l.length cL, .int .i64 x.now, .int .i64 x.ver, .slice (some ⟨pD, 0, none⟩) x.dr.length cD, .slice (some ⟨pU, 0, none⟩) x.us.length cU]) (by simp [results, Tryz.results37, go_sem, r0, r1, r2, r3, r4, r5]) rfl ⟨⟨pT, cT, gL, cL, pD, cD, pU, cU, _, _, _, _, rfl, TE.out, LE.out, DE.out.low hN2, UE.out.low hN2, ?_, ?_, ?_, ?_, ?_, ?_, ?_, ?_⟩, KE.out.mono hN2⟩
          all_goals omega
        · go_simp
          have O := OwnG.made (tE := 3) (K := 1) (cs := ci) w3 N (by have := K3.out.size; omega)
          have b4 := (Below.refl w3.heap.size w3).alloc (Nat.le_refl _) (Obj.cells #[] 3)
          have q4 : w3.heap.size < (w3.alloc (Obj.cells #[] 3)).heap.size := by simp
          obtain ⟨w4, hw4⟩ : ∃ X, w3.alloc (Obj.cells #[] 3) = X := ⟨_, rfl⟩
          rw [hw4] at O b4 q4 ⊢
          clear hw4
          obtain ⟨gB, hgB⟩ : ∃ g, w3.heap.size = g := ⟨_, rfl⟩
          have lB1 : w3.heap.size ≤ gB := Nat.le_of_eq hgB
          have lB2 : gB ≤ w3.heap.size := Nat.le_of_eq hgB.symm
          rw [hgB] at O q4 ⊢
          have b4 : Below w3.heap.size w3 w4 := by rw [hgB]; rw [hgB] at b4; exact b4
          clear hgB
          have K4 := hide (K3.out.trans (b4.mono (by have := K3.out.size; omega)))
          have X4 := hide (X3.out.next b4)
          have Z4 := hide (Z3.out.next b4)
          have y4 := b4.size
          have A4 := hide (A3.out.next b4)
          have T4 := hide (T3.out.next b4)
          have L4 := hide (L3.out.next b4)
          clear K3 X3 Z3 A3 T3 L3
          have B4 := hide O
          clear b4 O
          refine hK.out _ _ (flat _ X4.out) (fun hHeld2 => ?_)
          clear hK K hHeld
          have hHeld := hHeld2
          clear hHeld2
          simp only [List.setIfInBounds_toArray, List.set_cons_succ, List.set_cons_zero]
          refine wpAnyH_ready (rs := [13]) (by kernel_rfl) (by simp) ?_
          refine AllReadyH.cons rfl (fun K hK => ?_) AllReadyH.nil
          refine step_append_ints0 rfl _ _ rfl N gA (by first | rfl | (simp [Act.eval])) A4.out N da x.dr dc (by first | rfl | (simp [Act.eval])) (HD.out _ K4.out) HDn.out HDl.out (by have := K4.out.size; omega) ?_
          intro pD cD w5 O b5 hatD
          have sD : pD < w5.heap.size := (World.ownsRow.lt O pD rfl).2
          clear A4
          have K5 := hide (K4.out.trans (b5.mono (by have := K4.out.size; omega)))
          have X5 := hide (X4.out.next b5)
          have Z5 := hide (Z4.out.next b5)
          have y5 := b5.size
          have T5 := hide (T4.out.next b5)
          have L5 := hide (L4.out.next b5)
          have B5 := hide (B4.out.next b5)
          clear K4 X4 Z4 T4 L4 B4
          have D5 := hide O
          clear b5 O
          refine hK.out _ _ (flat _ X5.out) (fun hHeld2 => ?_)
          clear hK K hHeld
          have hHeld := hHeld2
          clear hHeld2
          simp only [List.setIfInBounds_toArray, List.set_cons_succ, List.set_cons_zero]
          refine wpAnyH_ready (rs := [17]) (by kernel_rfl) (by simp) ?_
          refine AllReadyH.cons rfl (fun K hK => ?_) AllReadyH.nil
          refine step_append_ints0 rfl _ _ rfl N gB (by first | rfl | (simp [Act.eval])) B5.out N ua x.us uc (by first | rfl | (simp [Act.eval])) (HU.out _ K5.out) HUn.out HUl.out (by have := K5.out.size; omega) ?_
          intro pU cU w6 O b6 hatU
          have sU : pU < w6.heap.size := (World.ownsRow.lt O pU rfl).2
          clear B5
          have K6 := hide (K5.out.trans (b6.mono (by have := K5.out.size; omega)))
          have X6 := hide (X5.out.next b6)
          have Z6 := hide (Z5.out.next b6)
          have y6 := b6.size
          have T6 := hide (T5.out.next b6)
          have L6 := hide (L5.out.next b6)
          have D6 := hide (D5.out.next b6)
          clear K5 X5 Z5 T5 L5 D5
          have U6 := hide O
          clear b6 O
          refine hK.out _ _ (flat _ X6.out) (fun hHeld2 => ?_)
          clear hK K hHeld
          have hHeld := hHeld2
          clear hHeld2
          simp only [List.setIfInBounds_toArray, List.set_cons_succ, List.set_cons_zero]
          refine wpAnyH_take (i := 18) (v := ?_) rfl (by kernel_rfl) (by kernel_rfl) (by kernel_rfl) (fun _ _ _ h => h) (Or.inl ⟨by rfl, ?_⟩) (by assumption) ?_
          rotate_left
          · intro w hSw; (try dsimp only at hSw); go_simp; try with_reducible rfl
          simp only [Act.put, List.getElem_toArray, List.getElem_cons_succ, List.getElem_cons_zero, List.setIfInBounds_toArray, List.set_cons_succ, List.set_cons_zero]
          refine wpAnyH_ready (rs := [19]) (by kernel_rfl) (by simp) ?_
          refine AllReadyH.cons rfl (fun K hK => ?_) AllReadyH.nil
          obtain ⟨d0, f0⟩ := Z6.out.2 0 _ rfl
          obtain ⟨d1, f1⟩ := Z6.out.2 1 _ rfl
          obtain ⟨d2, f2⟩ := Z6.out.2 2 _ rfl
          obtain ⟨d3, f3⟩ := Z6.out.2 3 _ rfl
          obtain ⟨d4, f4⟩ := Z6.out.2 4 _ rfl
          obtain ⟨d5, f5⟩ := Z6.out.2 5 _ rfl
          go_simp
          clear d0 f0 d1 f1 d2 f2 d3 f3 d4 f4 d5 f5
          have XE := hide ((((((X6.out.other ⟨N + 1, 0, none⟩ (.slice (some ⟨pT, 0, none⟩) x.t.length cT) (by show N + 1 ≠ N; omega)).other ⟨N + 1, 1, none⟩ (.slice (some ⟨gL, 0, none⟩) x.l.length cL) (by show N + 1 ≠ N; omega)).other ⟨N + 1, 2, none⟩ (.int .i64 x.now) (by show N + 1 ≠ N; omega)).other ⟨N + 1, 3, none⟩ (.int .i64 x.ver) (by show N + 1 ≠ N; omega)).other ⟨N + 1, 4, none⟩ (.slice (some ⟨pD, 0, none⟩) x.dr.length cD) (by show N + 1 ≠ N; omega)).other ⟨N + 1, 5, none⟩ (.slice (some ⟨pU, 0, none⟩) x.us.length cU) (by show N + 1 ≠ N; omega))
          have ZE := hide (show BoxV ((((((w6.setCell ⟨N + 1, 0, none⟩ (.slice (some ⟨pT, 0, none⟩) x.t.length cT)).setCell ⟨N + 1, 1, none⟩ (.slice (some ⟨gL, 0, none⟩) x.l.length cL)).setCell ⟨N + 1, 2, none⟩ (.int .i64 x.now)).setCell ⟨N + 1, 3, none⟩ (.int .i64 x.ver)).setCell ⟨N + 1, 4, none⟩ (.slice (some ⟨pD, 0, none⟩) x.dr.length cD)).setCell ⟨N + 1, 5, none⟩ (.slice (some ⟨pU, 0, none⟩) x.us.length cU)) (N + 1) [.slice (some ⟨pT, 0, none⟩) x.t.length cT, .slice (some ⟨gL, 0, none⟩) x.l.length cL, .int .i64 x.now, .int .i64 x.ver, .slice (some ⟨pD, 0, none⟩) x.dr.length cD, .slice (some ⟨pU, 0, none⟩) x.us.length cU] from ((((((Z6.out.set 0 (by simp) (.slice (some ⟨pT, 0, none⟩) x.t.length cT)).set 1 (by simp) (.slice (some ⟨gL, 0, none⟩) x.l.length cL)).set 2 (by simp) (.int .i64 x.now)).set 3 (by simp) (.int .i64 x.ver)).set 4 (by simp) (.slice (some ⟨pD, 0, none⟩) x.dr.length cD)).set 5 (by simp) (.slice (some ⟨pU, 0, none⟩) x.us.length cU)))
          have KE := hide ((((((K6.out.setCell (p := ⟨N + 1, 0, none⟩) (by show N ≤ N + 1; omega) (.slice (some ⟨pT, 0, none⟩) x.t.length cT)).setCell (p := ⟨N + 1, 1, none⟩) (by show N ≤ N + 1; omega) (.slice (some ⟨gL, 0, none⟩) x.l.length cL)).setCell (p := ⟨N + 1, 2, none⟩) (by show N ≤ N + 1; omega) (.int .i64 x.now)).setCell (p := ⟨N + 1, 3, none⟩) (by show N ≤ N + 1; omega) (.int .i64 x.ver)).setCell (p := ⟨N + 1, 4, none⟩) (by show N ≤ N + 1; omega) (.slice (some ⟨pD, 0, none⟩) x.dr.length cD)).setCell (p := ⟨N + 1, 5, none⟩) (by show N ≤ N + 1; omega) (.slice (some ⟨pU, 0, none⟩) x.us.length cU))
          have TE := hide ((((((T6.out.setCell ⟨N + 1, 0, none⟩ (.slice (some ⟨pT, 0, none⟩) x.t.length cT) (.inl (by show N + 1 < _; omega))).setCell ⟨N + 1, 1, none⟩ (.slice (some ⟨gL, 0, none⟩) x.l.length cL) (.inl (by show N + 1 < _; omega))).setCell ⟨N + 1, 2, none⟩ (.int .i64 x.now) (.inl (by show N + 1 < _; omega))).setCell ⟨N + 1, 3, none⟩ (.int .i64 x.ver) (.inl (by show N + 1 < _; omega))).setCell ⟨N + 1, 4, none⟩ (.slice (some ⟨pD, 0, none⟩) x.dr.length cD) (.inl (by show N + 1 < _; omega))).setCell ⟨N + 1, 5, none⟩ (.slice (some ⟨pU, 0, none⟩) x.us.length cU) (.inl (by show N + 1 < _; omega)))
          have LE := hide ((((((L6.out.setCell ⟨N + 1, 0, none⟩ (.slice (some ⟨pT, 0, none⟩) x.t.length cT) (.inl (by show N + 1 < _; omega))).setCell ⟨N + 1, 1, none⟩ (.slice (some ⟨gL, 0, none⟩) x.l.length cL) (.inl (by show N + 1 < _; omega))).setCell ⟨N + 1, 2, none⟩ (.int .i64 x.now) (.inl (by show N + 1 < _; omega))).setCell ⟨N + 1, 3, none⟩ (.int .i64 x.ver) (.inl (by show N + 1 < _; omega))).setCell ⟨N + 1, 4, none⟩ (.slice (some ⟨pD, 0, none⟩) x.dr.length cD) (.inl (by show N + 1 < _; omega))).setCell ⟨N + 1, 5, none⟩ (.slice (some ⟨pU, 0, none⟩) x.us.length cU) (.inl (by show N + 1 < _; omega)))
          have DE := hide ((((((D6.out.keepB (Below.heap_setCell _ ⟨N + 1, 0, none⟩ (.slice (some ⟨pT, 0, none⟩) x.t.length cT) _ (by show pD ≠ N + 1; omega))).keepB (Below.heap_setCell _ ⟨N + 1, 1, none⟩ (.slice (some ⟨gL, 0, none⟩) x.l.length cL) _ (by show pD ≠ N + 1; omega))).keepB (Below.heap_setCell _ ⟨N + 1, 2, none⟩ (.int .i64 x.now) _ (by show pD ≠ N + 1; omega))).keepB (Below.heap_setCell _ ⟨N + 1, 3, none⟩ (.int .i64 x.ver) _ (by show pD ≠ N + 1; omega))).keepB (Below.heap_setCell _ ⟨N + 1, 4, none⟩ (.slice (some ⟨pD, 0, none⟩) x.dr.length cD) _ (by show pD ≠ N + 1; omega))).keepB (Below.heap_setCell _ ⟨N + 1, 5, none⟩ (.slice (some ⟨pU, 0, none⟩) x.us.length cU) _ (by show pD ≠ N + 1; omega)))
          have UE := hide ((((((U6.out.keepB (Below.heap_setCell _ ⟨N + 1, 0, none⟩ (.slice (some ⟨pT, 0, none⟩) x.t.length cT) _ (by show pU ≠ N + 1; omega))).keepB (Below.heap_setCell _ ⟨N + 1, 1, none⟩ (.slice (some ⟨gL, 0, none⟩) x.l.length cL) _ (by show pU ≠ N + 1; omega))).keepB (Below.heap_setCell _ ⟨N + 1, 2, none⟩ (.int .i64 x.now) _ (by show pU ≠ N + 1; omega))).keepB (Below.heap_setCell _ ⟨N + 1, 3, none⟩ (.int .i64 x.ver) _ (by show pU ≠ N + 1; omega))).keepB (Below.heap_setCell _ ⟨N + 1, 4, none⟩ (.slice (some ⟨pD, 0, none⟩) x.dr.length cD) _ (by show pU ≠ N + 1; omega))).keepB (Below.heap_setCell _ ⟨N + 1, 5, none⟩ (.slice (some ⟨pU, 0, none⟩) x.us.length cU) _ (by show pU ≠ N + 1; omega)))
          refine hK.out _ _ (flat _ XE.out) (fun hHeld2 => ?_)
          clear hK K hHeld
          have hHeld := hHeld2
          clear hHeld2
          simp only [List.setIfInBounds_toArray, List.set_cons_succ, List.set_cons_zero]
          refine wpAnyH_done (by kernel_rfl) ?_ _
          clear hHeld
          have r0 := (ZE.out.2 0 _ rfl).1
          have r1 := (ZE.out.2 1 _ rfl).1
          have r2 := (ZE.out.2 2 _ rfl).1
          have r3 := (ZE.out.2 3 _ rfl).1
          have r4 := (ZE.out.2 4 _ rfl).1
          have r5 := (ZE.out.2 5 _ rfl).1
          go_wp2
          refine bodyPost_ret (v := .agg #[.slice (some ⟨pT, 0, none⟩) x.t.length cT, .slice (some ⟨gL, 0, none⟩) x.l.length cL, .int .i64 x.now, .int .i64 x.ver, .slice (some ⟨pD, 0, none⟩) x.dr.length cD, .slice (some ⟨pU, 0, none⟩) x.us.length cU]) (by simp [results, Tryz.results37, go_sem, r0, r1, r2, r3, r4, r5]) rfl ⟨⟨pT, cT, gL, cL, pD, cD, pU, cU, _, _, _, _, rfl, TE.out, LE.out, DE.out.low hN2, UE.out.low hN2, ?_, ?_, ?_, ?_, ?_, ?_, ?_, ?_⟩, KE.out.mono hN2⟩
          all_goals omega
      · go_simp
        have O := OwnG.made (tE := 3) (K := 1) (cs := ci) w2 N (by have := K2.out.size; omega)
        have b3 := (Below.refl w2.heap.size w2).alloc (Nat.le_refl _) (Obj.cells #[] 3)
        have q3 : w2.heap.size < (w2.alloc (Obj.cells #[] 3)).heap.size := by simp
        obtain ⟨w3, hw3⟩ : ∃ X, w2.alloc (Obj.cells #[] 3) = X := ⟨_, rfl⟩
        rw [hw3] at O b3 q3 ⊢
        clear hw3
        obtain ⟨gB, hgB⟩ : ∃ g, w2.heap.size = g := ⟨_, rfl⟩
        have lB1 : w2.heap.size ≤ gB := Nat.le_of_eq hgB
        have lB2 : gB ≤ w2.heap.size := Nat.le_of_eq hgB.symm
        rw [hgB] at O q3 ⊢
        have b3 : Below w2.heap.size w2 w3 := by rw [hgB]; rw [hgB] at b3; exact b3
        clear hgB
        have K3 := hide (K2.out.trans (b3.mono (by have := K2.out.size; omega)))
        have X3 := hide (X2.out.next b3)
        have Z3 := hide (Z2.out.next b3)
        have y3 := b3.size
        have A3 := hide (A2.out.next b3)
        have T3 := hide (T2.out.next b3)
        clear K2 X2 Z2 A2 T2
        have B3 := hide O
        clear b3 O
        refine hK.out _ _ (flat _ X3.out) (fun hHeld2 => ?_)
        clear hK K hHeld
        have hHeld := hHeld2
        clear hHeld2
        simp only [List.setIfInBounds_toArray, List.set_cons_succ, List.set_cons_zero]
        refine wpAnyH_ready (rs := [5]) (by kernel_rfl) (by simp) ?_
        refine AllReadyH.cons rfl (fun K hK => ?_) AllReadyH.nil
        go_simp
        refine (HL.out _ K3.out).mono ?_
        rintro e w4 ⟨⟨gL, cL, tsL, rfl, mL, rL, pL, lgL, lcL, lmL⟩, b4⟩
        have vwL := vw_of_rowV mL rL pL lgL lcL lmL
        have K4 := hide (K3.out.trans (b4.mono (by have := K3.out.size; omega)))
        have X4 := hide (X3.out.next b4)
        have Z4 := hide (Z3.out.next b4)
        have y4 := b4.size
        have A4 := hide (A3.out.next b4)
        have T4 := hide (T3.out.next b4)
        have B4 := hide (B3.out.next b4)
        clear K3 X3 Z3 A3 T3 B3
        have L4 := hide vwL
        clear b4 mL rL pL lgL lcL lmL vwL HL
        refine hK.out _ _ (flat _ X4.out) (fun hHeld2 => ?_)
        clear hK K hHeld
        have hHeld := hHeld2
        clear hHeld2
        simp only [List.setIfInBounds_toArray, List.set_cons_succ, List.set_cons_zero]
        refine wpAnyH_ready (rs := [13]) (by kernel_rfl) (by simp) ?_
        refine AllReadyH.cons rfl (fun K hK => ?_) AllReadyH.nil
        refine step_append_ints0 rfl _ _ rfl N gA (by first | rfl | (simp [Act.eval])) A4.out N da x.dr dc (by first | rfl | (simp [Act.eval])) (HD.out _ K4.out) HDn.out HDl.out (by have := K4.out.size; omega) ?_
        intro pD cD w5 O b5 hatD
        have sD : pD < w5.heap.size := (World.ownsRow.lt O pD rfl).2
        clear A4
        have K5 := hide (K4.out.trans (b5.mono (by have := K4.out.size; omega)))
        have X5 := hide (X4.out.next b5)
        have Z5 := hide (Z4.out.next b5)
        have y5 := b5.size
        have T5 := hide (T4.out.next b5)
        have B5 := hide (B4.out.next b5)
        have L5 := hide (L4.out.next b5)
        clear K4 X4 Z4 T4 B4 L4
        have D5 := hide O
        clear b5 O
        refine hK.out _ _ (flat _ X5.out) (fun hHeld2 => ?_)
        clear hK K hHeld
        have hHeld := hHeld2
        clear hHeld2
        simp only [List.setIfInBounds_toArray, List.set_cons_succ, List.set_cons_zero]
        refine wpAnyH_ready (rs := [17]) (by kernel_rfl) (by simp) ?_
        refine AllReadyH.cons rfl (fun K hK => ?_) AllReadyH.nil
        refine step_append_ints0 rfl _ _ rfl N gB (by first | rfl | (simp [Act.eval])) B5.out N ua x.us uc (by first | rfl | (simp [Act.eval])) (HU.out _ K5.out) HUn.out HUl.out (by have := K5.out.size; omega) ?_
        intro pU cU w6 O b6 hatU
        have sU : pU < w6.heap.size := (World.ownsRow.lt O pU rfl).2
        clear B5
        have K6 := hide (K5.out.trans (b6.mono (by have := K5.out.size; omega)))
        have X6 := hide (X5.out.next b6)
        have Z6 := hide (Z5.out.next b6)
        have y6 := b6.size
        have T6 := hide (T5.out.next b6)
        have L6 := hide (L5.out.next b6)
        have D6 := hide (D5.out.next b6)
        clear K5 X5 Z5 T5 L5 D5
        have U6 := hide O
        clear b6 O
        refine hK.out _ _ (flat _ X6.out) (fun hHeld2 => ?_)
        clear hK K hHeld
        have hHeld := hHeld2
        clear hHeld2
        simp only [List.setIfInBounds_toArray, List.set_cons_succ, List.set_cons_zero]
        refine wpAnyH_take (i := 18) (v := ?_) rfl (by kernel_rfl) (by kernel_rfl) (by kernel_rfl) (fun _ _ _ h => h) (Or.inl ⟨by rfl, ?_⟩) (by assumption) ?_
        rotate_left
        · intro w hSw; (try dsimp only at hSw); go_simp; try with_reducible rfl
        simp only [Act.put, List.getElem_toArray, List.getElem_cons_succ, List.getElem_cons_zero, List.setIfInBounds_toArray, List.set_cons_succ, List.set_cons_zero]
        refine wpAnyH_ready (rs := [19]) (by kernel_rfl) (by simp) ?_
        refine AllReadyH.cons rfl (fun K hK => ?_) AllReadyH.nil
        obtain ⟨d0, f0⟩ := Z6.out.2 0 _ rfl
        obtain ⟨d1, f1⟩ := Z6.out.2 1 _ rfl
        obtain ⟨d2, f2⟩ := Z6.out.2 2 _ rfl
        obtain ⟨d3, f3⟩ := Z6.out.2 3 _ rfl
        obtain ⟨d4, f4⟩ := Z6.out.2 4 _ rfl
        obtain ⟨d5, f5⟩ := Z6.out.2 5 _ rfl
        go_simp
        clear d0 f0 d1 f1 d2 f2 d3 f3 d4 f4 d5 f5
        have XE := hide ((((((X6.out.other ⟨N + 1, 0, none⟩ (.slice (some ⟨pT, 0, none⟩) x.t.length cT) (by show N + 1 ≠ N; omega)).other ⟨N + 1, 1, none⟩ (.slice (some ⟨gL, 0, none⟩) x.l.length cL) (by show N + 1 ≠ N; omega)).other ⟨N + 1, 2, none⟩ (.int .i64 x.now) (by show N + 1 ≠ N; omega)).other ⟨N + 1, 3, none⟩ (.int .i64 x.ver) (by show N + 1 ≠ N; omega)).other ⟨N + 1, 4, none⟩ (.slice (some ⟨pD, 0, none⟩) x.dr.length cD) (by show N + 1 ≠ N; omega)).other ⟨N + 1, 5, none⟩ (.slice (some ⟨pU, 0, none⟩) x.us.length cU) (by show N + 1 ≠ N; omega))
        have ZE := hide (show BoxV ((((((w6.setCell ⟨N + 1, 0, none⟩ (.slice (some ⟨pT, 0, none⟩) x.t.length cT)).setCell ⟨N + 1, 1, none⟩ (.slice (some ⟨gL, 0, none⟩) x.l.length cL)).setCell ⟨N + 1, 2, none⟩ (.int .i64 x.now)).setCell ⟨N + 1, 3, none⟩ (.int .i64 x.ver)).setCell ⟨N + 1, 4, none⟩ (.slice (some ⟨pD, 0, none⟩) x.dr.length cD)).setCell ⟨N + 1, 5, none⟩ (.slice (some ⟨pU, 0, none⟩) x.us.length cU)) (N + 1) [.slice (some ⟨pT, 0, none⟩) x.t.length cT, .slice (some ⟨gL, 0, none⟩) x.l.length cL, .int .i64 x.now, .int .i64 x.ver, .slice (some ⟨pD, 0, none⟩) x.dr.length cD, .slice (some ⟨pU, 0, none⟩) x.us.length cU] from ((((((Z6.out.set 0 (by simp) (.slice (some ⟨pT, 0, none⟩) x.t.length cT)).set 1 (by simp) (.slice (some ⟨gL, 0, none⟩) x.l.length cL)).set 2 (by simp) (.int .i64 x.now)).set 3 (by simp) (.int .i64 x.ver)).set 4 (by simp) (.slice (some ⟨pD, 0, none⟩) x.dr.length cD)).set 5 (by simp) (.slice (some ⟨pU, 0, none⟩) x.us.length cU)))
        have KE := hide ((((((K6.out.setCell (p := ⟨N + 1, 0, none⟩) (by show N ≤ N + 1; omega) (.slice (some ⟨pT, 0, none⟩) x.t.length cT)).setCell (p := ⟨N + 1, 1, none⟩) (by show N ≤ N + 1; omega) (.slice (some ⟨gL, 0, none⟩) x.l.length cL)).setCell (p := ⟨N + 1, 2, none⟩) (by show N ≤ N + 1; omega) (.int .i64 x.now)).setCell (p := ⟨N + 1, 3, none⟩) (by show N ≤ N + 1; omega) (.int .i64 x.ver)).setCell (p := ⟨N + 1, 4, none⟩) (by show N ≤ N + 1; omega) (.slice (some ⟨pD, 0, none⟩) x.dr.length cD)).setCell (p := ⟨N + 1, 5, none⟩) (by show N ≤ N + 1; omega) (.slice (some ⟨pU, 0, none⟩) x.us.length cU))
        have TE := hide ((((((T6.out.setCell ⟨N + 1, 0, none⟩ (.slice (some ⟨pT, 0, none⟩) x.t.length cT) (.inl (by show N + 1 < _; omega))).setCell ⟨N + 1, 1, none⟩ (.slice (some ⟨gL, 0, none⟩) x.l.length cL) (.inl (by show N + 1 < _; omega))).setCell ⟨N + 1, 2, none⟩ (.int .i64 x.now) (.inl (by show N + 1 < _; omega))).setCell ⟨N + 1, 3, none⟩ (.int .i64 x.ver) (.inl (by show N + 1 < _; omega))).setCell ⟨N + 1, 4, none⟩ (.slice (some ⟨pD, 0, none⟩) x.dr.length cD) (.inl (by show N + 1 < _; omega))).setCell ⟨N + 1, 5, none⟩ (.slice (some ⟨pU, 0, none⟩) x.us.length cU) (.inl (by show N + 1 < _; omega)))
        have LE := hide ((((((L6.out.setCell ⟨N + 1, 0, none⟩ (.slice (some ⟨pT, 0, none⟩) x.t.length cT) (.inl (by show N + 1 < _; omega))).setCell ⟨N + 1, 1, none⟩ (.slice (some ⟨gL, 0, none⟩) x.l.length cL) (.inl (by show N + 1 < _; omega))).setCell ⟨N + 1, 2, none⟩ (.int .i64 x.now) (.inl (by show N + 1 < _; omega))).setCell ⟨N + 1, 3, none⟩ (.int .i64 x.ver) (.inl (by show N + 1 < _; omega))).setCell ⟨N + 1, 4, none⟩ (.slice (some ⟨pD, 0, none⟩) x.dr.length cD) (.inl (by show N + 1 < _; omega))).setCell ⟨N + 1, 5, none⟩ (.slice (some ⟨pU, 0, none⟩) x.us.length cU) (.inl (by show N + 1 < _; omega)))
        have DE := hide ((((((D6.out.keepB (Below.heap_setCell _ ⟨N + 1, 0, none⟩ (.slice (some ⟨pT, 0, none⟩) x.t.length cT) _ (by show pD ≠ N + 1; omega))).keepB (Below.heap_setCell _ ⟨N + 1, 1, none⟩ (.slice (some ⟨gL, 0, none⟩) x.l.length cL) _ (by show pD ≠ N + 1; omega))).keepB (Below.heap_setCell _ ⟨N + 1, 2, none⟩ (.int .i64 x.now) _ (by show pD ≠ N + 1; omega))).keepB (Below.heap_setCell _ ⟨N + 1, 3, none⟩ (.int .i64 x.ver) _ (by show pD ≠ N + 1; omega))).keepB (Below.heap_setCell _ ⟨N + 1, 4, none⟩ (.slice (some ⟨pD, 0, none⟩) x.dr.length cD) _ (by show pD ≠ N + 1; omega))).keepB (Below.heap_setCell _ ⟨N + 1, 5, none⟩ (.slice (some ⟨pU, 0, none⟩) x.us.length cU) _ (by show pD ≠ N + 1; omega)))
        have UE := hide ((((((U6.out.keepB (Below.heap_setCell _ ⟨N + 1, 0, none⟩ (.slice (some ⟨pT, 0, none⟩) x.t.length cT) _ (by show pU ≠ N + 1; omega))).keepB (Below.heap_setCell _ ⟨N + 1, 1, none⟩ (.slice (some ⟨gL, 0, none⟩) x.l.length cL) _ (by show pU ≠ N + 1; omega))).keepB (Below.heap_setCell _ ⟨N + 1, 2, none⟩ (.int .i64 x.now) _ (by show pU ≠ N + 1; omega))).keepB (Below.heap_setCell _ ⟨N + 1, 3, none⟩ (.int .i64 x.ver) _ (by show pU ≠ N + 1; omega))).keepB (Below.heap_setCell _ ⟨N + 1, 4, none⟩ (.slice (some ⟨pD, 0, none⟩) x.dr.length cD) _ (by show pU ≠ N + 1; omega))).keepB (Below.heap_setCell _ ⟨N + 1, 5, none⟩ (.slice (some ⟨pU, 0, none⟩) x.us.length cU) _ (by show pU ≠ N + 1; omega)))
        refine hK.out _ _ (flat _ XE.out) (fun hHeld2 => ?_)
        clear hK K hHeld
        have hHeld := hHeld2
        clear hHeld2
        simp only [List.setIfInBounds_toArray, List.set_cons_succ, List.set_cons_zero]
        refine wpAnyH_done (by kernel_rfl) ?_ _
        clear hHeld
        have r0 := (ZE.out.2 0 _ rfl).1
        have r1 := (ZE.out.2 1 _ rfl).1
        have r2 := (ZE.out.2 2 _ rfl).1
        have r3 := (ZE.out.2 3 _ rfl).1
        have r4 := (ZE.out.2 4 _ rfl).1
        have r5 := (ZE.out.2 5 _ rfl).1
        go_wp2
        refine bodyPost_ret (v := .agg #[.slice (some ⟨pT, 0, none⟩) x.t.length cT, .slice (some ⟨gL, 0, none⟩) x.l.length cL, .int .i64 x.now, .int .i64 x.ver, .slice (some ⟨pD, 0, none⟩) x.dr.length cD, .slice (some ⟨pU, 0, none⟩) x.us.length cU]) (by simp [results, Tryz.results37, go_sem, r0, r1, r2, r3, r4, r5]) rfl ⟨⟨pT, cT, gL, cL, pD, cD, pU, cU, _, _, _, _, rfl, TE.out, LE.out, DE.out.low hN2, UE.out.low hN2, ?_, ?_, ?_, ?_, ?_, ?_, ?_, ?_⟩, KE.out.mono hN2⟩
        all_goals omega
    · go_simp
      have O := OwnG.made (tE := 3) (K := 1) (cs := ci) w1 N (by have := K1.out.size; omega)
      have b2 := (Below.refl w1.heap.size w1).alloc (Nat.le_refl _) (Obj.cells #[] 3)
      have q2 : w1.heap.size < (w1.alloc (Obj.cells #[] 3)).heap.size := by simp
      obtain ⟨w2, hw2⟩ : ∃ X, w1.alloc (Obj.cells #[] 3) = X := ⟨_, rfl⟩
      rw [hw2] at O b2 q2 ⊢
      clear hw2
      obtain ⟨gB, hgB⟩ : ∃ g, w1.heap.size = g := ⟨_, rfl⟩
      have lB1 : w1.heap.size ≤ gB := Nat.le_of_eq hgB
      have lB2 : gB ≤ w1.heap.size := Nat.le_of_eq hgB.symm
      rw [hgB] at O q2 ⊢
      have b2 : Below w1.heap.size w1 w2 := by rw [hgB]; rw [hgB] at b2; exact b2
      clear hgB
      have K2 := hide (K1.out.trans (b2.mono (by have := K1.out.size; omega)))
      have X2 := hide (X1.out.next b2)
      have Z2 := hide (Z1.out.next b2)
      have y2 := b2.size
      have A2 := hide (A1.out.next b2)
      clear K1 X1 Z1 A1
      have B2 := hide O
      clear b2 O
      refine hK.out _ _ (flat _ X2.out) (fun hHeld2 => ?_)
      clear hK K hHeld
      have hHeld := hHeld2
      clear hHeld2
      simp only [List.setIfInBounds_toArray, List.set_cons_succ, List.set_cons_zero]
      refine wpAnyH_ready (rs := [2]) (by kernel_rfl) (by simp) ?_
      refine AllReadyH.cons rfl (fun K hK => ?_) AllReadyH.nil
      go_simp
      refine (HT.out _ K2.out).mono ?_
      rintro e w3 ⟨⟨vT, tsT, rfl, gT, mT⟩, b3⟩
      obtain ⟨⟨pT, cT, eT⟩, vwT⟩ := vw_of_grow gT mT
      subst eT
      have K3 := hide (K2.out.trans (b3.mono (by have := K2.out.size; omega)))
      have X3 := hide (X2.out.next b3)
      have Z3 := hide (Z2.out.next b3)
      have y3 := b3.size
      have A3 := hide (A2.out.next b3)
      have B3 := hide (B2.out.next b3)
      clear K2 X2 Z2 A2 B2
      have T3 := hide vwT
      clear b3 gT mT vwT HT
      refine hK.out _ _ (flat _ X3.out) (fun hHeld2 => ?_)
      clear hK K hHeld
      have hHeld := hHeld2
      clear hHeld2
      simp only [List.setIfInBounds_toArray, List.set_cons_succ, List.set_cons_zero]
      refine wpAnyH_ready (rs := [5]) (by kernel_rfl) (by simp) ?_
      refine AllReadyH.cons rfl (fun K hK => ?_) AllReadyH.nil
      go_simp
      refine (HL.out _ K3.out).mono ?_
      rintro e w4 ⟨⟨gL, cL, tsL, rfl, mL, rL, pL, lgL, lcL, lmL⟩, b4⟩
      have vwL := vw_of_rowV mL rL pL lgL lcL lmL
      have K4 := hide (K3.out.trans (b4.mono (by have := K3.out.size; omega)))
      have X4 := hide (X3.out.next b4)
      have Z4 := hide (Z3.out.next b4)
      have y4 := b4.size
      have A4 := hide (A3.out.next b4)
      have B4 := hide (B3.out.next b4)
      have T4 := hide (T3.out.next b4)
      clear K3 X3 Z3 A3 B3 T3
      have L4 := hide vwL
      clear b4 mL rL pL lgL lcL lmL vwL HL
      refine hK.out _ _ (flat _ X4.out) (fun hHeld2 => ?_)
      clear hK K hHeld
      have hHeld := hHeld2
      clear hHeld2
      simp only [List.setIfInBounds_toArray, List.set_cons_succ, List.set_cons_zero]
      refine wpAnyH_ready (rs := [13]) (by kernel_rfl) (by simp) ?_
      refine AllReadyH.cons rfl (fun K hK => ?_) AllReadyH.nil
      refine step_append_ints0 rfl _ _ rfl N gA (by first | rfl | (simp [Act.eval])) A4.out N da x.dr dc (by first | rfl | (simp [Act.eval])) (HD.out _ K4.out) HDn.out HDl.out (by have := K4.out.size; omega) ?_
      intro pD cD w5 O b5 hatD
      have sD : pD < w5.heap.size := (World.ownsRow.lt O pD rfl).2
      clear A4
      have K5 := hide (K4.out.trans (b5.mono (by have := K4.out.size; omega)))
      have X5 := hide (X4.out.next b5)
      have Z5 := hide (Z4.out.next b5)
      have y5 := b5.size
      have B5 := hide (B4.out.next b5)
      have T5 := hide (T4.out.next b5)
      have L5 := hide (L4.out.next b5)
      clear K4 X4 Z4 B4 T4 L4
      have D5 := hide O
      clear b5 O
      refine hK.out _ _ (flat _ X5.out) (fun hHeld2 => ?_)
      clear hK K hHeld
      have hHeld := hHeld2
      clear hHeld2
      simp only [List.setIfInBounds_toArray, List.set_cons_succ, List.set_cons_zero]
      refine wpAnyH_ready (rs := [17]) (by kernel_rfl) (by simp) ?_
      refine AllReadyH.cons rfl (fun K hK => ?_) AllReadyH.nil
      refine step_append_ints0 rfl _ _ rfl N gB (by first | rfl | (simp [Act.eval])) B5.out N ua x.us uc (by first | rfl | (simp [Act.eval])) (HU.out _ K5.out) HUn.out HUl.out (by have := K5.out.size; omega) ?_
      intro pU cU w6 O b6 hatU
      have sU : pU < w6.heap.size := (World.ownsRow.lt O pU rfl).2
      clear B5
      have K6 := hide (K5.out.trans (b6.mono (by have := K5.out.size; omega)))
      have X6 := hide (X5.out.next b6)
      have Z6 := hide (Z5.out.next b6)
      have y6 := b6.size
      have T6 := hide (T5.out.next b6)
      have L6 := hide (L5.out.next b6)
      have D6 := hide (D5.out.next b6)
      clear K5 X5 Z5 T5 L5 D5
      have U6 := hide O
      clear b6 O
      refine hK.out _ _ (flat _ X6.out) (fun hHeld2 => ?_)
      clear hK K hHeld
      have hHeld := hHeld2
      clear hHeld2
      simp only [List.setIfInBounds_toArray, List.set_cons_succ, List.set_cons_zero]
      refine wpAnyH_take (i := 18) (v := ?_) rfl (by kernel_rfl) (by kernel_rfl) (by kernel_rfl) (fun _ _ _ h => h) (Or.inl ⟨by rfl, ?_⟩) (by assumption) ?_
      rotate_left
      · intro w hSw; (try dsimp only at hSw); go_simp; try with_reducible rfl
      simp only [Act.put, List.getElem_toArray, List.getElem_cons_succ, List.getElem_cons_zero, List.setIfInBounds_toArray, List.set_cons_succ, List.set_cons_zero]
      refine wpAnyH_ready (rs := [19]) (by kernel_rfl) (by simp) ?_
      refine AllReadyH.cons rfl (fun K hK => ?_) AllReadyH.nil
      obtain ⟨d0, f0⟩ := Z6.out.2 0 _ rfl
      obtain ⟨d1, f1⟩ := Z6.out.2 1 _ rfl
      obtain ⟨d2, f2⟩ := Z6.out.2 2 _ rfl
      obtain ⟨d3, f3⟩ := Z6.out.2 3 _ rfl
      obtain ⟨d4, f4⟩ := Z6.out.2 4 _ rfl
      obtain ⟨d5, f5⟩ := Z6.out.2 5 _ rfl
      go_simp
      clear d0 f0 d1 f1 d2 f2 d3 f3 d4 f4 d5 f5
      have XE := hide ((((((X6.out.other ⟨N + 1, 0, none⟩ (.slice (some ⟨pT, 0, none⟩) x.t.length cT) (by show N + 1 ≠ N; omega)).other ⟨N + 1, 1, none⟩ (.slice (some ⟨gL, 0, none⟩) x.l.length cL) (by show N + 1 ≠ N; omega)).other ⟨N + 1, 2, none⟩ (.int .i64 x.now) (by show N + 1 ≠ N; omega)).other ⟨N + 1, 3, none⟩ (.int .i64 x.ver) (by show N + 1 ≠ N; omega)).other ⟨N + 1, 4, none⟩ (.slice (some ⟨pD, 0, none⟩) x.dr.length cD) (by show N + 1 ≠ N; omega)).other ⟨N + 1, 5, none⟩ (.slice (some ⟨pU, 0, none⟩) x.us.length cU) (by show N + 1 ≠ N; omega))
      have ZE := hide (show BoxV ((((((w6.setCell ⟨N + 1, 0, none⟩ (.slice (some ⟨pT, 0, none⟩) x.t.length cT)).setCell ⟨N + 1, 1, none⟩ (.slice (some ⟨gL, 0, none⟩) x.l.length cL)).setCell ⟨N + 1, 2, none⟩ (.int .i64 x.now)).setCell ⟨N + 1, 3, none⟩ (.int .i64 x.ver)).setCell ⟨N + 1, 4, none⟩ (.slice (some ⟨pD, 0, none⟩) x.dr.length cD)).setCell ⟨N + 1, 5, none⟩ (.slice (some ⟨pU, 0, none⟩) x.us.length cU)) (N + 1) [.slice (some ⟨pT, 0, none⟩) x.t.length cT, .slice (some ⟨gL, 0, none⟩) x.l.length cL, .int .i64 x.now, .int .i64 x.ver, .slice (some ⟨pD, 0, none⟩) x.dr.length cD, .slice (some ⟨pU, 0, none⟩) x.us.length cU] from ((((((Z6.out.set 0 (by simp) (.slice (some ⟨pT, 0, none⟩) x.t.length cT)).set 1 (by simp) (.slice (some ⟨gL, 0, none⟩) x.l.length cL)).set 2 (by simp) (.int .i64 x.now)).set 3 (by simp) (.int .i64 x.ver)).set 4 (by simp) (.slice (some ⟨pD, 0, none⟩) x.dr.length cD)).set 5 (by simp) (.slice (some ⟨pU, 0, none⟩) x.us.length cU)))
      have KE := hide ((((((K6.out.setCell (p := ⟨N + 1, 0, none⟩) (by show N ≤ N + 1; omega) (.slice (some ⟨pT, 0, none⟩) x.t.length cT)).setCell (p := ⟨N + 1, 1, none⟩) (by show N ≤ N + 1; omega) (.slice (some ⟨gL, 0, none⟩) x.l.length cL)).setCell (p := ⟨N + 1, 2, none⟩) (by show N ≤ N + 1; omega) (.int .i64 x.now)).setCell (p := ⟨N + 1, 3, none⟩) (by show N ≤ N + 1; omega) (.int .i64 x.ver)).setCell (p := ⟨N + 1, 4, none⟩) (by show N ≤ N + 1; omega) (.slice (some ⟨pD, 0, none⟩) x.dr.length cD)).setCell (p := ⟨N + 1, 5, none⟩) (by show N ≤ N + 1; omega) (.slice (some ⟨pU, 0, none⟩) x.us.length cU))
      have TE := hide ((((((T6.out.setCell ⟨N + 1, 0, none⟩ (.slice (some ⟨pT, 0, none⟩) x.t.length cT) (.inl (by show N + 1 < _; omega))).setCell ⟨N + 1, 1, none⟩ (.slice (some ⟨gL, 0, none⟩) x.l.length cL) (.inl (by show N + 1 < _; omega))).setCell ⟨N + 1, 2, none⟩ (.int .i64 x.now) (.inl (by show N + 1 < _; omega))).setCell ⟨N + 1, 3, none⟩ (.int .i64 x.ver) (.inl (by show N + 1 < _; omega))).setCell ⟨N + 1, 4, none⟩ (.slice (some ⟨pD, 0, none⟩) x.dr.length cD) (.inl (by show N + 1 < _; omega))).setCell ⟨N + 1, 5, none⟩ (.slice (some ⟨pU, 0, none⟩) x.us.length cU) (.inl (by show N + 1 < _; omega)))
      have LE := hide ((((((L6.out.setCell ⟨N + 1, 0, none⟩ (.slice (some ⟨pT, 0, none⟩) x.t.length cT) (.inl (by show N + 1 < _; omega))).setCell ⟨N + 1, 1, none⟩ (.slice (some ⟨gL, 0, none⟩) x.l.length cL) (.inl (by show N + 1 < _; omega))).setCell ⟨N + 1, 2, none⟩ (.int .i64 x.now) (.inl (by show N + 1 < _; omega))).setCell ⟨N + 1, 3, none⟩ (.int .i64 x.ver) (.inl (by show N + 1 < _; omega))).setCell ⟨N + 1, 4, none⟩ (.slice (some ⟨pD, 0, none⟩) x.dr.length cD) (.inl (by show N + 1 < _; omega))).setCell ⟨N + 1, 5, none⟩ (.slice (some ⟨pU, 0, none⟩) x.us.length cU) (.inl (by show N + 1 < _; omega)))
      have DE := hide ((((((D6.out.keepB (Below.heap_setCell _ ⟨N + 1, 0, none⟩ (.slice (some ⟨pT, 0, none⟩) x.t.length cT) _ (by show pD ≠ N + 1; omega))).keepB (Below.heap_setCell _ ⟨N + 1, 1, none⟩ (.slice (some ⟨gL, 0, none⟩) x.l.length cL) _ (by show pD ≠ N + 1; omega))).keepB (Below.heap_setCell _ ⟨N + 1, 2, none⟩ (.int .i64 x.now) _ (by show pD ≠ N + 1; omega))).keepB (Below.heap_setCell _ ⟨N + 1, 3, none⟩ (.int .i64 x.ver) _ (by show pD ≠ N + 1; omega))).keepB (Below.heap_setCell _ ⟨N + 1, 4, none⟩ (.slice (some ⟨pD, 0, none⟩) x.dr.length cD) _ (by show pD ≠ N + 1; omega))).keepB (Below.heap_setCell _ ⟨N + 1, 5, none⟩ (.slice (some ⟨pU, 0, none⟩) x.us.length cU) _ (by show pD ≠ N + 1; omega)))
      have UE := hide ((((((U6.out.keepB (Below.heap_setCell _ ⟨N + 1, 0, none⟩ (.slice (some ⟨pT, 0, none⟩) x.t.length cT) _ (by show pU ≠ N + 1; omega))).keepB (Below.heap_setCell _ ⟨N + 1, 1, none⟩ (.slice (some ⟨gL, 0, none⟩) x.l.length cL) _ (by show pU ≠ N + 1; omega))).keepB (Below.heap_setCell _ ⟨N + 1, 2, none⟩ (.int .i64 x.now) _ (by show pU ≠ N + 1; omega))).keepB (Below.heap_setCell _ ⟨N + 1, 3, none⟩ (.int .i64 x.ver) _ (by show pU ≠ N + 1; omega))).keepB (Below.heap_setCell _ ⟨N + 1, 4, none⟩ (.slice (some ⟨pD, 0, none⟩) x.dr.length cD) _ (by show pU ≠ N + 1; omega))).keepB (Below.heap_setCell _ ⟨N + 1, 5, none⟩ (.slice (some ⟨pU, 0, none⟩) x.us.length cU) _ (by show pU ≠ N + 1; omega)))
      refine hK.out _ _ (flat _ XE.out) (fun hHeld2 => ?_)
      clear hK K hHeld
      have hHeld := hHeld2
      clear hHeld2
      simp only [List.setIfInBounds_toArray, List.set_cons_succ, List.set_cons_zero]
      refine wpAnyH_done (by kernel_rfl) ?_ _
      clear hHeld
      have r0 := (ZE.out.2 0 _ rfl).1
      have r1 := (ZE.out.2 1 _ rfl).1
      have r2 := (ZE.out.2 2 _ rfl).1
      have r3 := (ZE.out.2 3 _ rfl).1
      have r4 := (ZE.out.2 4 _ rfl).1
      have r5 := (ZE.out.2 5 _ rfl).1
      go_wp2
      refine bodyPost_ret (v := .agg #[.slice (some ⟨pT, 0, none⟩) x.t.length cT, .slice (some ⟨gL, 0, none⟩) x.l.length cL, .int .i64 x.now, .int .i64 x.ver, .slice (some ⟨pD, 0, none⟩) x.dr.length cD, .slice (some ⟨pU, 0, none⟩) x.us.length cU]) (by simp [results, Tryz.results37, go_sem, r0, r1, r2, r3, r4, r5]) rfl ⟨⟨pT, cT, gL, cL, pD, cD, pU, cU, _, _, _, _, rfl, TE.out, LE.out, DE.out.low hN2, UE.out.low hN2, ?_, ?_, ?_, ?_, ?_, ?_, ?_, ?_⟩, KE.out.mono hN2⟩
      all_goals omega
  · go_simp
    have O := OwnG.made (tE := 3) (K := 1) (cs := ci) w0 N (by have := K0.out.size; omega)
    have b1 := (Below.refl w0.heap.size w0).alloc (Nat.le_refl _) (Obj.cells #[] 3)
    have q1 : w0.heap.size < (w0.alloc (Obj.cells #[] 3)).heap.size := by simp
    obtain ⟨w1, hw1⟩ : ∃ X, w0.alloc (Obj.cells #[] 3) = X := ⟨_, rfl⟩
    rw [hw1] at O b1 q1 ⊢
    clear hw1
    obtain ⟨gB, hgB⟩ : ∃ g, w0.heap.size = g := ⟨_, rfl⟩
    have lB1 : w0.heap.size ≤ gB := Nat.le_of_eq hgB
    have lB2 : gB ≤ w0.heap.size := Nat.le_of_eq hgB.symm
    rw [hgB] at O q1 ⊢
    have b1 : Below w0.heap.size w0 w1 := by rw [hgB]; rw [hgB] at b1; exact b1
    clear hgB
    have K1 := hide (K0.out.trans (b1.mono (by have := K0.out.size; omega)))
    have X1 := hide (X0.out.next b1)
    have Z1 := hide (Z0.out.next b1)
    have y1 := b1.size
    clear K0 X0 Z0
    have B1 := hide O
    clear b1 O
    refine hK.out _ _ (flat _ X1.out) (fun hHeld2 => ?_)
    clear hK K hHeld
    have hHeld := hHeld2
    clear hHeld2
    simp only [List.setIfInBounds_toArray, List.set_cons_succ, List.set_cons_zero]
    refine wpAnyH_ready (rs := [2, 10]) (by kernel_rfl) (by simp) ?_
    refine AllReadyH.cons rfl (fun K hK => ?_) (AllReadyH.cons rfl (fun K hK => ?_) AllReadyH.nil)
    · go_simp
      refine (HT.out _ K1.out).mono ?_
      rintro e w2 ⟨⟨vT, tsT, rfl, gT, mT⟩, b2⟩
      obtain ⟨⟨pT, cT, eT⟩, vwT⟩ := vw_of_grow gT mT
      subst eT
      have K2 := hide (K1.out.trans (b2.mono (by have := K1.out.size; omega)))
      have X2 := hide (X1.out.next b2)
      have Z2 := hide (Z1.out.next b2)
      have y2 := b2.size
      have B2 := hide (B1.out.next b2)
      clear K1 X1 Z1 B1
      have T2 := hide vwT
      clear b2 gT mT vwT HT
      refine hK.out _ _ (flat _ X2.out) (fun hHeld2 => ?_)
      clear hK K hHeld
      have hHeld := hHeld2
      clear hHeld2
      simp only [List.setIfInBounds_toArray, List.set_cons_succ, List.set_cons_zero]
      refine wpAnyH_ready (rs := [5, 10]) (by kernel_rfl) (by simp) ?_
      refine AllReadyH.cons rfl (fun K hK => ?_) (AllReadyH.cons rfl (fun K hK => ?_) AllReadyH.nil)
      · go_simp
        refine (HL.out _ K2.out).mono ?_
        rintro e w3 ⟨⟨gL, cL, tsL, rfl, mL, rL, pL, lgL, lcL, lmL⟩, b3⟩
        have vwL := vw_of_rowV mL rL pL lgL lcL lmL
        have K3 := hide (K2.out.trans (b3.mono (by have := K2.out.size; omega)))
        have X3 := hide (X2.out.next b3)
        have Z3 := hide (Z2.out.next b3)
        have y3 := b3.size
        have B3 := hide (B2.out.next b3)
        have T3 := hide (T2.out.next b3)
        clear K2 X2 Z2 B2 T2
        have L3 := hide vwL
        clear b3 mL rL pL lgL lcL lmL vwL HL
        refine hK.out _ _ (flat _ X3.out) (fun hHeld2 => ?_)
        clear hK K hHeld
        have hHeld := hHeld2
        clear hHeld2
        simp only [List.setIfInBounds_toArray, List.set_cons_succ, List.set_cons_zero]
        refine wpAnyH_ready (rs := [10]) (by kernel_rfl) (by simp) ?_
        refine AllReadyH.cons rfl (fun K hK => ?_) AllReadyH.nil
        go_simp
        have O := OwnG.made (tE := 3) (K := 1) (cs := ci) w3 N (by have := K3.out.size; omega)
        have b4 := (Below.refl w3.heap.size w3).alloc (Nat.le_refl _) (Obj.cells #[] 3)
        have q4 : w3.heap.size < (w3.alloc (Obj.cells #[] 3)).heap.size := by simp
        obtain ⟨w4, hw4⟩ : ∃ X, w3.alloc (Obj.cells #[] 3) = X := ⟨_, rfl⟩
        rw [hw4] at O b4 q4 ⊢
        clear hw4
        obtain ⟨gA, hgA⟩ : ∃ g, w3.heap.size = g := ⟨_, rfl⟩
        have lA1 : w3.heap.size ≤ gA := Nat.le_of_eq hgA
        have lA2 : gA ≤ w3.heap.size := Nat.le_of_eq hgA.symm
        rw [hgA] at O q4 ⊢
        have b4 : Below w3.heap.size w3 w4 := by rw [hgA]; rw [hgA] at b4; exact b4
        clear hgA
        have K4 := hide (K3.out.trans (b4.mono (by have := K3.out.size; omega)))
        have X4 := hide (X3.out.next b4)
        have Z4 := hide (Z3.out.next b4)
        have y4 := b4.size
        have B4 := hide (B3.out.next b4)
        have T4 := hide (T3.out.next b4)
        have L4 := hide (L3.out.next b4)
        clear K3 X3 Z3 B3 T3 L3
        have A4 := hide O
        clear b4 O
        refine hK.out _ _ (flat _ X4.out) (fun hHeld2 => ?_)
        clear hK K hHeld
        have hHeld := hHeld2
        clear hHeld2
        simp only [List.setIfInBounds_toArray, List.set_cons_succ, List.set_cons_zero]
        refine wpAnyH_ready (rs := [13]) (by kernel_rfl) (by simp) ?_
        refine AllReadyH.cons rfl (fun K hK => ?_) AllReadyH.nil
        refine step_append_ints0 rfl _ _ rfl N gA (by first | rfl | (simp [Act.eval])) A4.out N da x.dr dc (by first | rfl | (simp [Act.eval])) (HD.out _ K4.out) HDn.out HDl.out (by have := K4.out.size; omega) ?_
        intro pD cD w5 O b5 hatD
        have sD : pD < w5.heap.size := (World.ownsRow.lt O pD rfl).2
        clear A4
        have K5 := hide (K4.out.trans (b5.mono (by have := K4.out.size; omega)))
        have X5 := hide (X4.out.next b5)
        have Z5 := hide (Z4.out.next b5)
        have y5 := b5.size
        have B5 := hide (B4.out.next b5)
        have T5 := hide (T4.out.next b5)
        have L5 := hide (L4.out.next b5)
        clear K4 X4 Z4 B4 T4 L4
        have D5 := hide O
        clear b5 O
        refine hK.out _ _ (flat _ X5.out) (fun hHeld2 => ?_)
        clear hK K hHeld
        have hHeld := hHeld2
        clear hHeld2
        simp only [List.setIfInBounds_toArray, List.set_cons_succ, List.set_cons_zero]
        refine wpAnyH_ready (rs := [17]) (by kernel_rfl) (by simp) ?_
        refine AllReadyH.cons rfl (fun K hK => ?_) AllReadyH.nil
        refine step_append_ints0 rfl _ _ rfl N gB (by first | rfl | (simp [Act.eval])) B5.out N ua x.us uc (by first | rfl | (simp [Act.eval])) (HU.out _ K5.out) HUn.out HUl.out (by have := K5.out.size; omega) ?_
        intro pU cU w6 O b6 hatU
        have sU : pU < w6.heap.size := (World.ownsRow.lt O pU rfl).2
        clear B5
        have K6 := hide (K5.out.trans (b6.mono (by have := K5.out.size; omega)))
        have X6 := hide (X5.out.next b6)
        have Z6 := hide (Z5.out.next b6)
        have y6 := b6.size
        have T6 := hide (T5.out.next b6)
        have L6 := hide (L5.out.next b6)
        have D6 := hide (D5.out.next b6)
        clear K5 X5 Z5 T5 L5 D5
        have U6 := hide O
        clear b6 O
        refine hK.out _ _ (flat _ X6.out) (fun hHeld2 => ?_)
        clear hK K hHeld
        have hHeld := hHeld2
        clear hHeld2
        simp only [List.setIfInBounds_toArray, List.set_cons_succ, List.set_cons_zero]
        refine wpAnyH_take (i := 18) (v := ?_) rfl (by kernel_rfl) (by kernel_rfl) (by kernel_rfl) (fun _ _ _ h => h) (Or.inl ⟨by rfl, ?_⟩) (by assumption) ?_
        rotate_left
        · intro w hSw; (try dsimp only at hSw); go_simp; try with_reducible rfl
        simp only [Act.put, List.getElem_toArray, List.getElem_cons_succ, List.getElem_cons_zero, List.setIfInBounds_toArray, List.set_cons_succ, List.set_cons_zero]
        refine wpAnyH_ready (rs := [19]) (by kernel_rfl) (by simp) ?_
        refine AllReadyH.cons rfl (fun K hK => ?_) AllReadyH.nil
        obtain ⟨d0, f0⟩ := Z6.out.2 0 _ rfl
        obtain ⟨d1, f1⟩ := Z6.out.2 1 _ rfl
        obtain ⟨d2, f2⟩ := Z6.out.2 2 _ rfl
        obtain ⟨d3, f3⟩ := Z6.out.2 3 _ rfl
        obtain ⟨d4, f4⟩ := Z6.out.2 4 _ rfl
        obtain ⟨d5, f5⟩ := Z6.out.2 5 _ rfl
        go_simp
        clear d0 f0 d1 f1 d2 f2 d3 f3 d4 f4 d5 f5
        have XE := hide ((((((X6.out.other ⟨N + 1, 0, none⟩ (.slice (some ⟨pT, 0, none⟩) x.t.length cT) (by show N + 1 ≠ N; omega)).other ⟨N + 1, 1, none⟩ (.slice (some ⟨gL, 0, none⟩) x.l.length cL) (by show N + 1 ≠ N; omega)).other ⟨N + 1, 2, none⟩ (.int .i64 x.now) (by show N + 1 ≠ N; omega)).other ⟨N + 1, 3, none⟩ (.int .i64 x.ver) (by show N + 1 ≠ N; omega)).other ⟨N + 1, 4, none⟩ (.slice (some ⟨pD, 0, none⟩) x.dr.length cD) (by show N + 1 ≠ N; omega)).other ⟨N + 1, 5, none⟩ (.slice (some ⟨pU, 0, none⟩) x.us.length cU) (by show N + 1 ≠ N; omega))
        have ZE := hide (show BoxV ((((((w6.setCell ⟨N + 1, 0, none⟩ (.slice (some ⟨pT, 0, none⟩) x.t.length cT)).setCell ⟨N + 1, 1, none⟩ (.slice (some ⟨gL, 0, none⟩) x.l.length cL)).setCell ⟨N + 1, 2, none⟩ (.int .i64 x.now)).setCell ⟨N + 1, 3, none⟩ (.int .i64 x.ver)).setCell ⟨N + 1, 4, none⟩ (.slice (some ⟨pD, 0, none⟩) x.dr.length cD)).setCell ⟨N + 1, 5, none⟩ (.slice (some ⟨pU, 0, none⟩) x.us.length cU)) (N + 1) [.slice (some ⟨pT, 0, none⟩) x.t.length cT, .slice (some ⟨gL, 0, none⟩) x.l.length cL, .int .i64 x.now, .int .i64 x.ver, .slice (some ⟨pD, 0, none⟩) x.dr.length cD, .slice (some ⟨pU, 0, none⟩) x.us.length cU] from ((((((Z6.out.set 0 (by simp) (.slice (some ⟨pT, 0, none⟩) x.t.length cT)).set 1 (by simp) (.slice (some ⟨gL, 0, none⟩) x.l.length cL)).set 2 (by simp) (.int .i64 x.now)).set 3 (by simp) (.int .i64 x.ver)).set 4 (by simp) (.slice (some ⟨pD, 0, none⟩) x.dr.length cD)).set 5 (by simp) (.slice (some ⟨pU, 0, none⟩) x.us.length cU)))
        have KE := hide ((((((K6.out.setCell (p := ⟨N + 1, 0, none⟩) (by show N ≤ N + 1; omega) (.slice (some ⟨pT, 0, none⟩) x.t.length cT)).setCell (p := ⟨N + 1, 1, none⟩) (by show N ≤ N + 1; omega) (.slice (some ⟨gL, 0, none⟩) x.l.length cL)).setCell (p := ⟨N + 1, 2, none⟩) (by show N ≤ N + 1; omega) (.int .i64 x.now)).setCell (p := ⟨N + 1, 3, none⟩) (by show N ≤ N + 1; omega) (.int .i64 x.ver)).setCell (p := ⟨N + 1, 4, none⟩) (by show N ≤ N + 1; omega) (.slice (some ⟨pD, 0, none⟩) x.dr.length cD)).setCell (p := ⟨N + 1, 5, none⟩) (by show N ≤ N + 1; omega) (.slice (some ⟨pU, 0, none⟩) x.us.length cU))
        have TE := hide ((((((T6.out.setCell ⟨N + 1, 0, none⟩ (.slice (some ⟨pT, 0, none⟩) x.t.length cT) (.inl (by show N + 1 < _; omega))).setCell ⟨N + 1, 1, none⟩ (.slice (some ⟨gL, 0, none⟩) x.l.length cL) (.inl (by show N + 1 < _; omega))).setCell ⟨N + 1, 2, none⟩ (.int .i64 x.now) (.inl (by show N + 1 < _; omega))).setCell ⟨N + 1, 3, none⟩ (.int .i64 x.ver) (.inl (by show N + 1 < _; omega))).setCell ⟨N + 1, 4, none⟩ (.slice (some ⟨pD, 0, none⟩) x.dr.length cD) (.inl (by show N + 1 < _; omega))).setCell ⟨N + 1, 5, none⟩ (.slice (some ⟨pU, 0, none⟩) x.us.length cU) (.inl (by show N + 1 < _; omega)))
        have LE := hide ((((((L6.out.setCell ⟨N + 1, 0, none⟩ (.slice (some ⟨pT, 0, none⟩) x.t.length cT) (.inl (by show N + 1 < _; omega))).setCell ⟨N + 1, 1, none⟩ (.slice (some ⟨gL, 0, none⟩) x.l.length cL) (.inl (by show N + 1 < _; omega))).setCell ⟨N + 1, 2, none⟩ (.int .i64 x.now) (.inl (by show N + 1 < _; omega))).setCell ⟨N + 1, 3, none⟩ (.int .i64 x.ver) (.inl (by show N + 1 < _; omega))).setCell ⟨N + 1, 4, none⟩ (.slice (some ⟨pD, 0, none⟩) x.dr.length cD) (.inl (by show N + 1 < _; omega))).setCell ⟨N + 1, 5, none⟩ (.slice (some ⟨pU, 0, none⟩) x.us.length cU) (.inl (by show N + 1 < _; omega)))
        have DE := hide ((((((D6.out.keepB (Below.heap_setCell _ ⟨N + 1, 0, none⟩ (.slice (some ⟨pT, 0, none⟩) x.t.length cT) _ (by show pD ≠ N + 1; omega))).keepB (Below.heap_setCell _ ⟨N + 1, 1, none⟩ (.slice (some ⟨gL, 0, none⟩) x.l.length cL) _ (by show pD ≠ N + 1; omega))).keepB (Below.heap_setCell _ ⟨N + 1, 2, none⟩ (.int .i64 x.now) _ (by show pD ≠ N + 1; omega))).keepB (Below.heap_setCell _ ⟨N + 1, 3, none⟩ (.int .i64 x.ver) _ (by show pD ≠ N + 1; omega))).keepB (Below.heap_setCell _ ⟨N + 1, 4, none⟩ (.slice (some ⟨pD, 0, none⟩) x.dr.length cD) _ (by show pD ≠ N + 1; omega))).keepB (Below.heap_setCell _ ⟨N + 1, 5, none⟩ (.slice (some ⟨pU, 0, none⟩) x.us.length cU) _ (by show pD ≠ N + 1; omega)))
        have UE := hide ((((((U6.out.keepB (Below.heap_setCell _ ⟨N + 1, 0, none⟩ (.slice (some ⟨pT, 0, none⟩) x.t.length cT) _ (by show pU ≠ N + 1; omega))).keepB (Below.heap_setCell _ ⟨N + 1, 1, none⟩ (.slice (some ⟨gL, 0, none⟩) x.l.length cL) _ (by show pU ≠ N + 1; omega))).keepB (Below.heap_setCell _ ⟨N + 1, 2, none⟩ (.int .i64 x.now) _ (by show pU ≠ N + 1; omega))).keepB (Below.heap_setCell _ ⟨N + 1, 3, none⟩ (.int .i64 x.ver) _ (by show pU ≠ N + 1; omega))).keepB (Below.heap_setCell _ ⟨N + 1, 4, none⟩ (.slice (some ⟨pD, 0, none⟩) x.dr.length cD) _ (by show pU ≠ N + 1; omega))).keepB (Below.heap_setCell _ ⟨N + 1, 5, none⟩ (.slice (some ⟨pU, 0, none⟩) x.us.length cU) _ (by show pU ≠ N + 1; omega)))
        refine hK.out _ _ (flat _ XE.out) (fun hHeld2 => ?_)
        clear hK K hHeld
        have hHeld := hHeld2
        clear hHeld2
        simp only [List.setIfInBounds_toArray, List.set_cons_succ, List.set_cons_zero]
        refine wpAnyH_done (by kernel_rfl) ?_ _
        clear hHeld
        have r0 := (ZE.out.2 0 _ rfl).1
        have r1 := (ZE.out.2 1 _ rfl).1
        have r2 := (ZE.out.2 2 _ rfl).1
        have r3 := (ZE.out.2 3 _ rfl).1
        have r4 := (ZE.out.2 4 _ rfl).1
        have r5 := (ZE.out.2 5 _ rfl).1
        go_wp2
        refine bodyPost_ret (v := .agg #[.slice (some ⟨pT, 0, none⟩) x.t.length cT, .slice (some ⟨gL, 0, none⟩) x.l.length cL, .int .i64 x.now, .int .i64 x.ver, .slice (some ⟨pD, 0, none⟩) x.dr.length cD, .slice (some ⟨pU, 0, none⟩) x.us.length cU]) (by simp [results, Tryz.results37, go_sem, r0, r1, r2, r3, r4, r5]) rfl ⟨⟨pT, cT, gL, cL, pD, cD, pU, cU, _, _, _, _, rfl, TE.out, LE.out, DE.out.low hN2, UE.out.low hN2, ?_, ?_, ?_, ?_, ?_, ?_, ?_, ?_⟩, KE.out.mono hN2⟩
        all_goals omega
      · go_simp
        have O := OwnG.made (tE := 3) (K := 1) (cs := ci) w2 N (by have := K2.out.size; omega)
        have b3 := (Below.refl w2.heap.size w2).alloc (Nat.le_refl _) (Obj.cells #[] 3)
        have q3 : w2.heap.size < (w2.alloc (Obj.cells #[] 3)).heap.size := by simp
        obtain ⟨w3, hw3⟩ : ∃ X, w2.alloc (Obj.cells #[] 3) = X := ⟨_, rfl⟩
        rw [hw3] at O b3 q3 ⊢
        clear hw3
        obtain ⟨gA, hgA⟩ : ∃ g, w2.heap.size = g := ⟨_, rfl⟩
        have lA1 : w2.heap.size ≤ gA := Nat.le_of_eq hgA
        have lA2 : gA ≤ w2.heap.size := Nat.le_of_eq hgA.symm
        rw [hgA] at O q3 ⊢
        have b3 : Below w2.heap.size w2 w3 := by rw [hgA]; rw [hgA] at b3; exact b3
        clear hgA
        have K3 := hide (K2.out.trans (b3.mono (by have := K2.out.size; omega)))
        have X3 := hide (X2.out.next b3)
        have Z3 := hide (Z2.out.next b3)
        have y3 := b3.size
        have B3 := hide (B2.out.next b3)
        have T3 := hide (T2.out.next b3)
        clear K2 X2 Z2 B2 T2
        have A3 := hide O
        clear b3 O
        refine hK.out _ _ (flat _ X3.out) (fun hHeld2 => ?_)
        clear hK K hHeld
        have hHeld := hHeld2
        clear hHeld2
        simp only [List.setIfInBounds_toArray, List.set_cons_succ, List.set_cons_zero]
        refine wpAnyH_ready (rs := [5]) (by kernel_rfl) (by simp) ?_
        refine AllReadyH.cons rfl (fun K hK => ?_) AllReadyH.nil
        go_simp
        refine (HL.out _ K3.out).mono ?_
        rintro e w4 ⟨⟨gL, cL, tsL, rfl, mL, rL, pL, lgL, lcL, lmL⟩, b4⟩
        have vwL := vw_of_rowV mL rL pL lgL lcL lmL
        have K4 := hide (K3.out.trans (b4.mono (by have := K3.out.size; omega)))
        have X4 := hide (X3.out.next b4)
        have Z4 := hide (Z3.out.next b4)
        have y4 := b4.size
        have B4 := hide (B3.out.next b4)
        have T4 := hide (T3.out.next b4)
        have A4 := hide (A3.out.next b4)
        clear K3 X3 Z3 B3 T3 A3
        have L4 := hide vwL
        clear b4 mL rL pL lgL lcL lmL vwL HL
        refine hK.out _ _ (flat _ X4.out) (fun hHeld2 => ?_)
        clear hK K hHeld
        have hHeld := hHeld2
        clear hHeld2
        simp only [List.setIfInBounds_toArray, List.set_cons_succ, List.set_cons_zero]
        refine wpAnyH_ready (rs := [13]) (by kernel_rfl) (by simp) ?_
        refine AllReadyH.cons rfl (fun K hK => ?_) AllReadyH.nil
        refine step_append_ints0 rfl _ _ rfl N gA (by first | rfl | (simp [Act.eval])) A4.out N da x.dr dc (by first | rfl | (simp [Act.eval])) (HD.out _ K4.out) HDn.out HDl.out (by have := K4.out.size; omega) ?_
        intro pD cD w5 O b5 hatD
        have sD : pD < w5.heap.size := (World.ownsRow.lt O pD rfl).2
        clear A4
        have K5 := hide (K4.out.trans (b5.mono (by have := K4.out.size; omega)))
        have X5 := hide (X4.out.next b5)
        have Z5 := hide (Z4.out.next b5)
        have y5 := b5.size
        have B5 := hide (B4.out.next b5)
        have T5 := hide (T4.out.next b5)
        have L5 := hide (L4.out.next b5)
        clear K4 X4 Z4 B4 T4 L4
        have D5 := hide O
        clear b5 O
        refine hK.out _ _ (flat _ X5.out) (fun hHeld2 => ?_)
        clear hK K hHeld
        have hHeld := hHeld2
        clear hHeld2
        simp only [List.setIfInBounds_toArray, List.set_cons_succ, List.set_cons_zero]
        refine wpAnyH_ready (rs := [17]) (by kernel_rfl) (by simp) ?_
        refine AllReadyH.cons rfl (fun K hK => ?_) AllReadyH.nil
        refine step_append_ints0 rfl _ _ rfl N gB (by first | rfl | (simp [Act.eval])) B5.out N ua x.us uc (by first | rfl | (simp [Act.eval])) (HU.out _ K5.out) HUn.out HUl.out (by have := K5.out.size; omega) ?_
        intro pU cU w6 O b6 hatU
        have sU : pU < w6.heap.size := (World.ownsRow.lt O pU rfl).2
        clear B5
        have K6 := hide (K5.out.trans (b6.mono (by have := K5.out.size; omega)))
        have X6 := hide (X5.out.next b6)
        have Z6 := hide (Z5.out.next b6)
        have y6 := b6.size
        have T6 := hide (T5.out.next b6)
        have L6 := hide (L5.out.next b6)
        have D6 := hide (D5.out.next b6)
        clear K5 X5 Z5 T5 L5 D5
        have U6 := hide O
        clear b6 O
        refine hK.out _ _ (flat _ X6.out) (fun hHeld2 => ?_)
        clear hK K hHeld
        have hHeld := hHeld2
        clear hHeld2
        simp only [List.setIfInBounds_toArray, List.set_cons_succ, List.set_cons_zero]
        refine wpAnyH_take (i := 18) (v := ?_) rfl (by kernel_rfl) (by kernel_rfl) (by kernel_rfl) (fun _ _ _ h => h) (Or.inl ⟨by rfl, ?_⟩) (by assumption) ?_
        rotate_left
        · intro w hSw; (try dsimp only at hSw); go_simp; try with_reducible rfl
        simp only [Act.put, List.getElem_toArray, List.getElem_cons_succ, List.getElem_cons_zero, List.setIfInBounds_toArray, List.set_cons_succ, List.set_cons_zero]
        refine wpAnyH_ready (rs := [19]) (by kernel_rfl) (by simp) ?_
        refine AllReadyH.cons rfl (fun K hK => ?_) AllReadyH.nil
        obtain ⟨d0, f0⟩ := Z6.out.2 0 _ rfl
        obtain ⟨d1, f1⟩ := Z6.out.2 1 _ rfl
        obtain ⟨d2, f2⟩ := Z6.out.2 2 _ rfl
        obtain ⟨d3, f3⟩ := Z6.out.2 3 _ rfl
        obtain ⟨d4, f4⟩ := Z6.out.2 4 _ rfl
        obtain ⟨d5, f5⟩ := Z6.out.2 5 _ rfl
        go_simp
        clear d0 f0 d1 f1 d2 f2 d3 f3 d4 f4 d5 f5
        have XE := hide ((((((X6.out.other ⟨N + 1, 0, none⟩ (.slice (some ⟨pT, 0, none⟩) x.t.length cT) (by show N + 1 ≠ N; omega)).other ⟨N + 1, 1, none⟩ (.slice (some ⟨gL, 0, none⟩) x.l.length cL) (by show N + 1 ≠ N; omega)).other ⟨N + 1, 2, none⟩ (.int .i64 x.now) (by show N + 1 ≠ N; omega)).other ⟨N + 1, 3, none⟩ (.int .i64 x.ver) (by show N + 1 ≠ N; omega)).other ⟨N + 1, 4, none⟩ (.slice (some ⟨pD, 0, none⟩) x.dr.length cD) (by show N + 1 ≠ N; omega)).other ⟨N + 1, 5, none⟩ (.slice (some ⟨pU, 0, none⟩) x.us.length cU) (by show N + 1 ≠ N; omega))
        have ZE := hide (show BoxV ((((((w6.setCell ⟨N + 1, 0, none⟩ (.slice (some ⟨pT, 0, none⟩) x.t.length cT)).setCell ⟨N + 1, 1, none⟩ (.slice (some ⟨gL, 0, none⟩) x.l.length cL)).setCell ⟨N + 1, 2, none⟩ (.int .i64 x.now)).setCell ⟨N + 1, 3, none⟩ (.int .i64 x.ver)).setCell ⟨N + 1, 4, none⟩ (.slice (some ⟨pD, 0, none⟩) x.dr.length cD)).setCell ⟨N + 1, 5, none⟩ (.slice (some ⟨pU, 0, none⟩) x.us.length cU)) (N + 1) [.slice (some ⟨pT, 0, none⟩) x.t.length cT, .slice (some ⟨gL, 0, none⟩) x.l.length cL, .int .i64 x.now, .int .i64 x.ver, .slice (some ⟨pD, 0, none⟩) x.dr.length cD, .slice (some ⟨pU, 0, none⟩) x.us.length cU] from ((((((Z6.out.set 0 (by simp) (.slice (some ⟨pT, 0, none⟩) x.t.length cT)).set 1 (by simp) (.slice (some ⟨gL, 0, none⟩) x.l.length cL)).set 2 (by simp) (.int .i64 x.now)).set 3 (by simp) (.int .i64 x.ver)).set 4 (by simp) (.slice (some ⟨pD, 0, none⟩) x.dr.length cD)).set 5 (by simp) (.slice (some ⟨pU, 0, none⟩) x.us.length cU)))
        have KE := hide ((((((K6.out.setCell (p := ⟨N + 1, 0, none⟩) (by show N ≤ N + 1; omega) (.slice (some ⟨pT, 0, none⟩) x.t.length cT)).setCell (p := ⟨N + 1, 1, none⟩) (by show N ≤ N + 1; omega) (.slice (some ⟨gL, 0, none⟩) x.l.length cL)).setCell (p := ⟨N + 1, 2, none⟩) (by show N ≤ N + 1; omega) (.int .i64 x.now)).setCell (p := ⟨N + 1, 3, none⟩) (by show N ≤ N + 1; omega) (.int .i64 x.ver)).setCell (p := ⟨N + 1, 4, none⟩) (by show N ≤ N + 1; omega) (.slice (some ⟨pD, 0, none⟩) x.dr.length cD)).setCell (p := ⟨N + 1, 5, none⟩) (by show N ≤ N + 1; omega) (.slice (some ⟨pU, 0, none⟩) x.us.length cU))
        have TE := hide ((((((T6.out.setCell ⟨N + 1, 0, none⟩ (.slice (some ⟨pT, 0, none⟩) x.t.length cT) (.inl (by show N + 1 < _; omega))).setCell ⟨N + 1, 1, none⟩ (.slice (some ⟨gL, 0, none⟩) x.l.length cL) (.inl (by show N + 1 < _; omega))).setCell ⟨N + 1, 2, none⟩ (.int .i64 x.now) (.inl (by show N + 1 < _; omega))).setCell ⟨N + 1, 3, none⟩ (.int .i64 x.ver) (.inl (by show N + 1 < _; omega))).setCell ⟨N + 1, 4, none⟩ (.slice (some ⟨pD, 0, none⟩) x.dr.length cD) (.inl (by show N + 1 < _; omega))).setCell ⟨N + 1, 5, none⟩ (.slice (some ⟨pU, 0, none⟩) x.us.length cU) (.inl (by show N + 1 < _; omega)))
        have LE := hide ((((((L6.out.setCell ⟨N + 1, 0, none⟩ (.slice (some ⟨pT, 0, none⟩) x.t.length cT) (.inl (by show N + 1 < _; omega))).setCell ⟨N + 1, 1, none⟩ (.slice (some ⟨gL, 0, none⟩) x.l.length cL) (.inl (by show N + 1 < _; omega))).setCell ⟨N + 1, 2, none⟩ (.int .i64 x.now) (.inl (by show N + 1 < _; omega))).setCell ⟨N + 1, 3, none⟩ (.int .i64 x.ver) (.inl (by show N + 1 < _; omega))).setCell ⟨N + 1, 4, none⟩ (.slice (some ⟨pD, 0, none⟩) x.dr.length cD) (.inl (by show N + 1 < _; omega))).setCell ⟨N + 1, 5, none⟩ (.slice (some ⟨pU, 0, none⟩) x.us.length cU) (.inl (by show N + 1 < _; omega)))
        have DE := hide ((((((D6.out.keepB (Below.heap_setCell _ ⟨N + 1, 0, none⟩ (.slice (some ⟨pT, 0, none⟩) x.t.length cT) _ (by show pD ≠ N + 1; omega))).keepB (Below.heap_setCell _ ⟨N + 1, 1, none⟩ (.slice (some ⟨gL, 0, none⟩) x.l.length cL) _ (by show pD ≠ N + 1; omega))).keepB (Below.heap_setCell _ ⟨N + 1, 2, none⟩ (.int .i64 x.now) _ (by show pD ≠ N + 1; omega))).keepB (Below.heap_setCell _ ⟨N + 1, 3, none⟩ (.int .i64 x.ver) _ (by show pD ≠ N + 1; omega))).keepB (Below.heap_setCell _ ⟨N + 1, 4, none⟩ (.slice (some ⟨pD, 0, none⟩) x.dr.length cD) _ (by show pD ≠ N + 1; omega))).keepB (Below.heap_setCell _ ⟨N + 1, 5, none⟩ (.slice (some ⟨pU, 0, none⟩) x.us.length cU) _ (by show pD ≠ N + 1; omega)))
        have UE := hide ((((((U6.out.keepB (Below.heap_setCell _ ⟨N + 1, 0, none⟩ (.slice (some ⟨pT, 0, none⟩) x.t.length cT) _ (by show pU ≠ N + 1; omega))).keepB (Below.heap_setCell _ ⟨N + 1, 1, none⟩ (.slice (some ⟨gL, 0, none⟩) x.l.length cL) _ (by show pU ≠ N + 1; omega))).keepB (Below.heap_setCell _ ⟨N + 1, 2, none⟩ (.int .i64 x.now) _ (by show pU ≠ N + 1; omega))).keepB (Below.heap_setCell _ ⟨N + 1, 3, none⟩ (.int .i64 x.ver) _ (by show pU ≠ N + 1; omega))).keepB (Below.heap_setCell _ ⟨N + 1, 4, none⟩ (.slice (some ⟨pD, 0, none⟩) x.dr.length cD) _ (by show pU ≠ N + 1; omega))).keepB (Below.heap_setCell _ ⟨N + 1, 5, none⟩ (.slice (some ⟨pU, 0, none⟩) x.us.length cU) _ (by show pU ≠ N + 1; omega)))
        refine hK.out _ _ (flat _ XE.out) (fun hHeld2 => ?_)
        clear hK K hHeld
        have hHeld := hHeld2
        clear hHeld2
        simp only [List.setIfInBounds_toArray, List.set_cons_succ, List.set_cons_zero]
        refine wpAnyH_done (by kernel_rfl) ?_ _
        clear hHeld
        have r0 := (ZE.out.2 0 _ rfl).1
        have r1 := (ZE.out.2 1 _ rfl).1
        have r2 := (ZE.out.2 2 _ rfl).1
        have r3 := (ZE.out.2 3 _ rfl).1
        have r4 := (ZE.out.2 4 _ rfl).1
        have r5 := (ZE.out.2 5 _ rfl).1
        go_wp2
        refine bodyPost_ret (v := .agg #[.slice (some ⟨pT, 0, none⟩) x.t.length cT, .slice (some ⟨gL, 0, none⟩) x.l.length cL, .int .i64 x.now, .int .i64 x.ver, .slice (some ⟨pD, 0, none⟩) x.dr.length cD, .slice (some ⟨pU, 0, none⟩) x.us.length cU]) (by simp [results, Tryz.results37, go_sem, r0, r1, r2, r3, r4, r5]) rfl ⟨⟨pT, cT, gL, cL, pD, cD, pU, cU, _, _, _, _, rfl, TE.out, LE.out, DE.out.low hN2, UE.out.low hN2, ?_, ?_, ?_, ?_, ?_, ?_, ?_, ?_⟩, KE.out.mono hN2⟩
        all_goals omega
    · go_simp
      have O := OwnG.made (tE := 3) (K := 1) (cs := ci) w1 N (by have := K1.out.size; omega)
      have b2 := (Below.refl w1.heap.size w1).alloc (Nat.le_refl _) (Obj.cells #[] 3)
      have q2 : w1.heap.size < (w1.alloc (Obj.cells #[] 3)).heap.size := by simp
      obtain ⟨w2, hw2⟩ : ∃ X, w1.alloc (Obj.cells #[] 3) = X := ⟨_, rfl⟩
      rw [hw2] at O b2 q2 ⊢
      clear hw2
      obtain ⟨gA, hgA⟩ : ∃ g, w1.heap.size = g := ⟨_, rfl⟩
      have lA1 : w1.heap.size ≤ gA := Nat.le_of_eq hgA
      have lA2 : gA ≤ w1.heap.size := Nat.le_of_eq hgA.symm
      rw [hgA] at O q2 ⊢
      have b2 : Below w1.heap.size w1 w2 := by rw [hgA]; rw [hgA] at b2; exact b2
      clear hgA
      have K2 := hide (K1.out.trans (b2.mono (by have := K1.out.size; omega)))
      have X2 := hide (X1.out.next b2)
      have Z2 := hide (Z1.out.next b2)
      have y2 := b2.size
      have B2 := hide (B1.out.next b2)
      clear K1 X1 Z1 B1
      have A2 := hide O
      clear b2 O
      refine hK.out _ _ (flat _ X2.out) (fun hHeld2 => ?_)
      clear hK K hHeld
      have hHeld := hHeld2
      clear hHeld2
      simp only [List.setIfInBounds_toArray, List.set_cons_succ, List.set_cons_zero]
      refine wpAnyH_ready (rs := [2]) (by kernel_rfl) (by simp) ?_
      refine AllReadyH.cons rfl (fun K hK => ?_) AllReadyH.nil
      go_simp
      refine (HT.out _ K2.out).mono ?_
      rintro e w3 ⟨⟨vT, tsT, rfl, gT, mT⟩, b3⟩
      obtain ⟨⟨pT, cT, eT⟩, vwT⟩ := vw_of_grow gT mT
      subst eT
      have K3 := hide (K2.out.trans (b3.mono (by have := K2.out.size; omega)))
      have X3 := hide (X2.out.next b3)
      have Z3 := hide (Z2.out.next b3)
      have y3 := b3.size
      have B3 := hide (B2.out.next b3)
      have A3 := hide (A2.out.next b3)
      clear K2 X2 Z2 B2 A2
      have T3 := hide vwT
      clear b3 gT mT vwT HT
      refine hK.out _ _ (flat _ X3.out) (fun hHeld2 => ?_)
      clear hK K hHeld
      have hHeld := hHeld2
      clear hHeld2
      simp only [List.setIfInBounds_toArray, List.set_cons_succ, List.set_cons_zero]
      refine wpAnyH_ready (rs := [5]) (by kernel_rfl) (by simp) ?_
      refine AllReadyH.cons rfl (fun K hK => ?_) AllReadyH.nil
      go_simp
      refine (HL.out _ K3.out).mono ?_
      rintro e w4 ⟨⟨gL, cL, tsL, rfl, mL, rL, pL, lgL, lcL, lmL⟩, b4⟩
      have vwL := vw_of_rowV mL rL pL lgL lcL lmL
      have K4 := hide (K3.out.trans (b4.mono (by have := K3.out.size; omega)))
      have X4 := hide (X3.out.next b4)
      have Z4 := hide (Z3.out.next b4)
      have y4 := b4.size
      have B4 := hide (B3.out.next b4)
      have A4 := hide (A3.out.next b4)
      have T4 := hide (T3.out.next b4)
      clear K3 X3 Z3 B3 A3 T3
      have L4 := hide vwL
      clear b4 mL rL pL lgL lcL lmL vwL HL
      refine hK.out _ _ (flat _ X4.out) (fun hHeld2 => ?_)
      clear hK K hHeld
      have hHeld := hHeld2
      clear hHeld2
      simp only [List.setIfInBounds_toArray, List.set_cons_succ, List.set_cons_zero]
      refine wpAnyH_ready (rs := [13]) (by kernel_rfl) (by simp) ?_
      refine AllReadyH.cons rfl (fun K hK => ?_) AllReadyH.nil
      refine step_append_ints0 rfl _ _ rfl N gA (by first | rfl | (simp [Act.eval])) A4.out N da x.dr dc (by first | rfl | (simp [Act.eval])) (HD.out _ K4.out) HDn.out HDl.out (by have := K4.out.size; omega) ?_
      intro pD cD w5 O b5 hatD
      have sD : pD < w5.heap.size := (World.ownsRow.lt O pD rfl).2
      clear A4
      have K5 := hide (K4.out.trans (b5.mono (by have := K4.out.size; omega)))
      have X5 := hide (X4.out.next b5)
      have Z5 := hide (Z4.out.next b5)
      have y5 := b5.size
      have B5 := hide (B4.out.next b5)
      have T5 := hide (T4.out.next b5)
      have L5 := hide (L4.out.next b5)
      clear K4 X4 Z4 B4 T4 L4
      have D5 := hide O
      clear b5 O
      refine hK.out _ _ (flat _ X5.out) (fun hHeld2 => ?_)
      clear hK K hHeld
      have hHeld := hHeld2
      clear hHeld2
      simp only [List.setIfInBounds_toArray, List.set_cons_succ, List.set_cons_zero]
      refine wpAnyH_ready (rs := [17]) (by kernel_rfl) (by simp) ?_
      refine AllReadyH.cons rfl (fun K hK => ?_) AllReadyH.nil
      refine step_append_ints0 rfl _ _ rfl N gB (by first | rfl | (simp [Act.eval])) B5.out N ua x.us uc (by first | rfl | (simp [Act.eval])) (HU.out _ K5.out) HUn.out HUl.out (by have := K5.out.size; omega) ?_
      intro pU cU w6 O b6 hatU
      have sU : pU < w6.heap.size := (World.ownsRow.lt O pU rfl).2
      clear B5
      have K6 := hide (K5.out.trans (b6.mono (by have := K5.out.size; omega)))
      have X6 := hide (X5.out.next b6)
      have Z6 := hide (Z5.out.next b6)
      have y6 := b6.size
      have T6 := hide (T5.out.next b6)
      have L6 := hide (L5.out.next b6)
      have D6 := hide (D5.out.next b6)
      clear K5 X5 Z5 T5 L5 D5
      have U6 := hide O
      clear b6 O
      refine hK.out _ _ (flat _ X6.out) (fun hHeld2 => ?_)
      clear hK K hHeld
      have hHeld := hHeld2
      clear hHeld2
      simp only [List.setIfInBounds_toArray, List.set_cons_succ, List.set_cons_zero]
      refine wpAnyH_take (i := 18) (v := ?_) rfl (by kernel_rfl) (by kernel_rfl) (by kernel_rfl) (fun _ _ _ h => h) (Or.inl ⟨by rfl, ?_⟩) (by assumption) ?_
      rotate_left
      · intro w hSw; (try dsimp only at hSw); go_simp; try with_reducible rfl
      simp only [Act.put, List.getElem_toArray, List.getElem_cons_succ, List.getElem_cons_zero, List.setIfInBounds_toArray, List.set_cons_succ, List.set_cons_zero]
      refine wpAnyH_ready (rs := [19]) (by kernel_rfl) (by simp) ?_
      refine AllReadyH.cons rfl (fun K hK => ?_) AllReadyH.nil
      obtain ⟨d0, f0⟩ := Z6.out.2 0 _ rfl
      obtain ⟨d1, f1⟩ := Z6.out.2 1 _ rfl
      obtain ⟨d2, f2⟩ := Z6.out.2 2 _ rfl
      obtain ⟨d3, f3⟩ := Z6.out.2 3 _ rfl
      obtain ⟨d4, f4⟩ := Z6.out.2 4 _ rfl
      obtain ⟨d5, f5⟩ := Z6.out.2 5 _ rfl
      go_simp
      clear d0 f0 d1 f1 d2 f2 d3 f3 d4 f4 d5 f5
      have XE := hide ((((((X6.out.other ⟨N + 1, 0, none⟩ (.slice (some ⟨pT, 0, none⟩) x.t.length cT) (by show N + 1 ≠ N; omega)).other ⟨N + 1, 1, none⟩ (.slice (some ⟨gL, 0, none⟩) x.l.length cL) (by show N + 1 ≠ N; omega)).other ⟨N + 1, 2, none⟩ (.int .i64 x.now) (by show N + 1 ≠ N; omega)).other ⟨N + 1, 3, none⟩ (.int .i64 x.ver) (by show N + 1 ≠ N; omega)).other ⟨N + 1, 4, none⟩ (.slice (some ⟨pD, 0, none⟩) x.dr.length cD) (by show N + 1 ≠ N; omega)).other ⟨N + 1, 5, none⟩ (.slice (some ⟨pU, 0, none⟩) x.us.length cU) (by show N + 1 ≠ N; omega))
      have ZE := hide (show BoxV ((((((w6.setCell ⟨N + 1, 0, none⟩ (.slice (some ⟨pT, 0, none⟩) x.t.length cT)).setCell ⟨N + 1, 1, none⟩ (.slice (some ⟨gL, 0, none⟩) x.l.length cL)).setCell ⟨N + 1, 2, none⟩ (.int .i64 x.now)).setCell ⟨N + 1, 3, none⟩ (.int .i64 x.ver)).setCell ⟨N + 1, 4, none⟩ (.slice (some ⟨pD, 0, none⟩) x.dr.length cD)).setCell ⟨N + 1, 5, none⟩ (.slice (some ⟨pU, 0, none⟩) x.us.length cU)) (N + 1) [.slice (some ⟨pT, 0, none⟩) x.t.length cT, .slice (some ⟨gL, 0, none⟩) x.l.length cL, .int .i64 x.now, .int .i64 x.ver, .slice (some ⟨pD, 0, none⟩) x.dr.length cD, .slice (some ⟨pU, 0, none⟩) x.us.length cU] from ((((((Z6.out.set 0 (by simp) (.slice (some ⟨pT, 0, none⟩) x.t.length cT)).set 1 (by simp) (.slice (some ⟨gL, 0, none⟩) x.l.length cL)).set 2 (by simp) (.int .i64 x.now)).set 3 (by simp) (.int .i64 x.ver)).set 4 (by simp) (.slice (some ⟨pD, 0, none⟩) x.dr.length cD)).set 5 (by simp) (.slice (some ⟨pU, 0, none⟩) x.us.length cU)))
      have KE := hide ((((((K6.out.setCell (p := ⟨N + 1, 0, none⟩) (by show N ≤ N + 1; omega) (.slice (some ⟨pT, 0, none⟩) x.t.length cT)).setCell (p := ⟨N + 1, 1, none⟩) (by show N ≤ N + 1; omega) (.slice (some ⟨gL, 0, none⟩) x.l.length cL)).setCell (p := ⟨N + 1, 2, none⟩) (by show N ≤ N + 1; omega) (.int .i64 x.now)).setCell (p := ⟨N + 1, 3, none⟩) (by show N ≤ N + 1; omega) (.int .i64 x.ver)).setCell (p := ⟨N + 1, 4, none⟩) (by show N ≤ N + 1; omega) (.slice (some ⟨pD, 0, none⟩) x.dr.length cD)).setCell (p := ⟨N + 1, 5, none⟩) (by show N ≤ N + 1; omega) (.slice (some ⟨pU, 0, none⟩) x.us.length cU))
      have TE := hide ((((((T6.out.setCell ⟨N + 1, 0, none⟩ (.slice (some ⟨pT, 0, none⟩) x.t.length cT) (.inl (by show N + 1 < _; omega))).setCell ⟨N + 1, 1, none⟩ (.slice (some ⟨gL, 0, none⟩) x.l.length cL) (.inl (by show N + 1 < _; omega))).setCell ⟨N + 1, 2, none⟩ (.int .i64 x.now) (.inl (by show N + 1 < _; omega))).setCell ⟨N + 1, 3, none⟩ (.int .i64 x.ver) (.inl (by show N + 1 < _; omega))).setCell ⟨N + 1, 4, none⟩ (.slice (some ⟨pD, 0, none⟩) x.dr.length cD) (.inl (by show N + 1 < _; omega))).setCell ⟨N + 1, 5, none⟩ (.slice (some ⟨pU, 0, none⟩) x.us.length cU) (.inl (by show N + 1 < _; omega)))
      have LE := hide ((((((L6.out.setCell ⟨N + 1, 0, none⟩ (.slice (some ⟨pT, 0, none⟩) x.t.length cT) (.inl (by show N + 1 < _; omega))).setCell ⟨N + 1, 1, none⟩ (.slice (some ⟨gL, 0, none⟩) x.l.length cL) (.inl (by show N + 1 < _; omega))).setCell ⟨N + 1, 2, none⟩ (.int .i64 x.now) (.inl (by show N + 1 < _; omega))).setCell ⟨N + 1, 3, none⟩ (.int .i64 x.ver) (.inl (by show N + 1 < _; omega))).setCell ⟨N + 1, 4, none⟩ (.slice (some ⟨pD, 0, none⟩) x.dr.length cD) (.inl (by show N + 1 < _; omega))).setCell ⟨N + 1, 5, none⟩ (.slice (some ⟨pU, 0, none⟩) x.us.length cU) (.inl (by show N + 1 < _; omega)))
      have DE := hide ((((((D6.out.keepB (Below.heap_setCell _ ⟨N + 1, 0, none⟩ (.slice (some ⟨pT, 0, none⟩) x.t.length cT) _ (by show pD ≠ N + 1; omega))).keepB (Below.heap_setCell _ ⟨N + 1, 1, none⟩ (.slice (some ⟨gL, 0, none⟩) x.l.length cL) _ (by show pD ≠ N + 1; omega))).keepB (Below.heap_setCell _ ⟨N + 1, 2, none⟩ (.int .i64 x.now) _ (by show pD ≠ N + 1; omega))).keepB (Below.heap_setCell _ ⟨N + 1, 3, none⟩ (.int .i64 x.ver) _ (by show pD ≠ N + 1; omega))).keepB (Below.heap_setCell _ ⟨N + 1, 4, none⟩ (.slice (some ⟨pD, 0, none⟩) x.dr.length cD) _ (by show pD ≠ N + 1; omega))).keepB (Below.heap_setCell _ ⟨N + 1, 5, none⟩ (.slice (some ⟨pU, 0, none⟩) x.us.length cU) _ (by show pD ≠ N + 1; omega)))
      have UE := hide ((((((U6.out.keepB (Below.heap_setCell _ ⟨N + 1, 0, none⟩ (.slice (some ⟨pT, 0, none⟩) x.t.length cT) _ (by show pU ≠ N + 1; omega))).keepB (Below.heap_setCell _ ⟨N + 1, 1, none⟩ (.slice (some ⟨gL, 0, none⟩) x.l.length cL) _ (by show pU ≠ N + 1; omega))).keepB (Below.heap_setCell _ ⟨N + 1, 2, none⟩ (.int .i64 x.now) _ (by show pU ≠ N + 1; omega))).keepB (Below.heap_setCell _ ⟨N + 1, 3, none⟩ (.int .i64 x.ver) _ (by show pU ≠ N + 1; omega))).keepB (Below.heap_setCell _ ⟨N + 1, 4, none⟩ (.slice (some ⟨pD, 0, none⟩) x.dr.length cD) _ (by show pU ≠ N + 1; omega))).keepB (Below.heap_setCell _ ⟨N + 1, 5, none⟩ (.slice (some ⟨pU, 0, none⟩) x.us.length cU) _ (by show pU ≠ N + 1; omega)))
      refine hK.out _ _ (flat _ XE.out) (fun hHeld2 => ?_)
      clear hK K hHeld
      have hHeld := hHeld2
      clear hHeld2
      simp only [List.setIfInBounds_toArray, List.set_cons_succ, List.set_cons_zero]
      refine wpAnyH_done (by kernel_rfl) ?_ _
      clear hHeld
      have r0 := (ZE.out.2 0 _ rfl).1
      have r1 := (ZE.out.2 1 _ rfl).1
      have r2 := (ZE.out.2 2 _ rfl).1
      have r3 := (ZE.out.2 3 _ rfl).1
      have r4 := (ZE.out.2 4 _ rfl).1
      have r5 := (ZE.out.2 5 _ rfl).1
      go_wp2
      refine bodyPost_ret (v := .agg #[.slice (some ⟨pT, 0, none⟩) x.t.length cT, .slice (some ⟨gL, 0, none⟩) x.l.length cL, .int .i64 x.now, .int .i64 x.ver, .slice (some ⟨pD, 0, none⟩) x.dr.length cD, .slice (some ⟨pU, 0, none⟩) x.us.length cU]) (by simp [results, Tryz.results37, go_sem, r0, r1, r2, r3, r4, r5]) rfl ⟨⟨pT, cT, gL, cL, pD, cD, pU, cU, _, _, _, _, rfl, TE.out, LE.out, DE.out.low hN2, UE.out.low hN2, ?_, ?_, ?_, ?_, ?_, ?_, ?_, ?_⟩, KE.out.mono hN2⟩
      all_goals omega
end Go.Proofs.YtcgljeagjchobaaGreat
