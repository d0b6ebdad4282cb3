/-
  What impl.copySrv does.
-/
import Derived.Test.YtcgljeagjchobaaGreatGenPick
import Derived.Test.YtcgljeagjchobaaGreatCopiedI
import Derived.Test.YtcgljeagjchobaaGreatPlaceB
import Derived.Test.YtcgljeagjchobaaGreatLockOps
import Derived.Deep.RegionHeld3
namespace Go.Proofs.YtcgljeagjchobaaGreat
open Go.RowKit M
set_option linter.unusedVariables false

set_option maxRecDepth 100000 in
set_option maxHeartbeats 8000000 in
theorem copySrv_any (x : Sv) (ta : Option Addr) (tc : Nat) (la : Option Addr) (lc : Nat) (da : Option Addr) (dc : Nat) (ua : Option Addr) (uc B : Nat) (w : World) (h : SvIn w B x ta tc la lc da dc ua uc) (hB : B ≤ w.heap.size) (hs : SvSmall x) :
    Calls Tryz.prog 82 #[.agg #[.slice ta x.t.length tc, .slice la x.l.length lc, .int .i64 x.now, .int .i64 x.ver, .slice da x.dr.length dc, .slice ua x.us.length uc]] w fun e w' => (∃ p0 p1 p4 p5 n0 n1 n4 : Nat, e = .returned (.agg #[.slice (some ⟨p0, 0, none⟩) x.t.length x.t.length, .slice (some ⟨p1, 0, none⟩) x.l.length x.l.length, .int .i64 x.now, .int .i64 x.ver, .slice (some ⟨p4, 0, none⟩) x.dr.length x.dr.length, .slice (some ⟨p5, 0, none⟩) x.us.length x.us.length]) ∧
      Own w' (.slice (some ⟨p0, 0, none⟩) x.t.length x.t.length) (.l (x.t.map dRs)) (IvG w.heap.size n0) ∧ w.heap.size ≤ n0 ∧ Own w' (.slice (some ⟨p1, 0, none⟩) x.l.length x.l.length) (.l (x.l.map dLk)) (IvG n0 n1) ∧ n0 ≤ n1 ∧ Own w' (.slice (some ⟨p4, 0, none⟩) x.dr.length x.dr.length) (.l (x.dr.map dI)) (IvG n1 n4) ∧ n1 ≤ n4 ∧ Own w' (.slice (some ⟨p5, 0, none⟩) x.us.length x.us.length) (.l (x.us.map dI)) (IvG n4 w'.heap.size) ∧ n4 ≤ w'.heap.size) ∧ Below w.heap.size w w' := by
  have K0 := hide (show Below w.heap.size w ((w.alloc (Obj.cells #[.slice ta x.t.length tc, .slice la x.l.length lc, .int .i64 x.now, .int .i64 x.ver, .slice da x.dr.length dc, .slice ua x.us.length uc] 32)).alloc (Obj.cells #[.slice none 0 0, .slice none 0 0, .int .i64 0, .int .i64 0, .slice none 0 0, .slice none 0 0] 32)).drew from below_drewG (((Below.refl _ _).alloc (Nat.le_refl _) _).alloc (by simp) _))
  have X0 := hide (show BoxV ((w.alloc (Obj.cells #[.slice ta x.t.length tc, .slice la x.l.length lc, .int .i64 x.now, .int .i64 x.ver, .slice da x.dr.length dc, .slice ua x.us.length uc] 32)).alloc (Obj.cells #[.slice none 0 0, .slice none 0 0, .int .i64 0, .int .i64 0, .slice none 0 0, .slice none 0 0] 32)).drew w.heap.size [.slice ta x.t.length tc, .slice la x.l.length lc, .int .i64 x.now, .int .i64 x.ver, .slice da x.dr.length dc, .slice ua x.us.length uc] from ((BoxV.made w [.slice ta x.t.length tc, .slice la x.l.length lc, .int .i64 x.now, .int .i64 x.ver, .slice da x.dr.length dc, .slice ua x.us.length uc] 32).alloc _).drew)
  have Y0 := hide (show BoxV ((w.alloc (Obj.cells #[.slice ta x.t.length tc, .slice la x.l.length lc, .int .i64 x.now, .int .i64 x.ver, .slice da x.dr.length dc, .slice ua x.us.length uc] 32)).alloc (Obj.cells #[.slice none 0 0, .slice none 0 0, .int .i64 0, .int .i64 0, .slice none 0 0, .slice none 0 0] 32)).drew (w.heap.size + 1) [.slice none 0 0, .slice none 0 0, .int .i64 0, .int .i64 0, .slice none 0 0, .slice none 0 0] by have h := (BoxV.made (w.alloc (Obj.cells #[.slice ta x.t.length tc, .slice la x.l.length lc, .int .i64 x.now, .int .i64 x.ver, .slice da x.dr.length dc, .slice ua x.us.length uc] 32)) [.slice none 0 0, .slice none 0 0, .int .i64 0, .int .i64 0, .slice none 0 0, .slice none 0 0] 32).drew; simpa using h)
  have hmr : ∀ r ∈ x.t, r.pa.length ≤ maxLen ∧ r.ps.length ≤ maxLen := fun r hr => by have := hs.tpa r hr; unfold maxLen; omega
  have hml : x.t.length ≤ maxLen := Nat.le_trans hs.tlen (by decide)
  have hmk : x.l.length ≤ maxLen := Nat.le_trans hs.llen (by decide)
  have HT := hide (fun W (hb : Below w.heap.size w W) => copyTree_any ta x.t tc B W (h.th.below hb hB) (Nat.le_trans hB hb.size) hs.tlen hs.tsz)
  have HL := hide (fun W (hb : Below w.heap.size w W) => copyLocks_any la x.l lc B W (h.lh.below hb hB) (Nat.le_trans hB hb.size) (Nat.le_trans hs.llen (by decide)) hs.lpa)
  have HD := hide (fun W (hb : Below w.heap.size w W) => copiedI_any da x.dr dc B W (h.dh.below hb hB) (Nat.le_trans hB hb.size) (Nat.le_trans hs.d (by decide)))
  have HU := hide (fun W (hb : Below w.heap.size w W) => copiedI_any ua x.us uc B W (h.uh.below hb hB) (Nat.le_trans hB hb.size) (Nat.le_trans hs.u (by decide)))
  have flat : ∀ W : World, BoxV W w.heap.size [.slice ta x.t.length tc, .slice la x.l.length lc, .int .i64 x.now, .int .i64 x.ver, .slice da x.dr.length dc, .slice ua x.us.length uc] → (W.cell? ⟨w.heap.size, 0, none⟩ = some (.slice ta x.t.length tc) ∧ W.cell? ⟨w.heap.size, 1, none⟩ = some (.slice la x.l.length lc) ∧ W.cell? ⟨w.heap.size, 2, none⟩ = some (.int .i64 x.now) ∧ W.cell? ⟨w.heap.size, 3, none⟩ = some (.int .i64 x.ver) ∧ W.cell? ⟨w.heap.size, 4, none⟩ = some (.slice da x.dr.length dc) ∧ W.cell? ⟨w.heap.size, 5, none⟩ = some (.slice ua x.us.length uc)) := fun W X => ⟨(X.2 0 _ rfl).1, (X.2 1 _ rfl).1, (X.2 2 _ rfl).1, (X.2 3 _ rfl).1, (X.2 4 _ rfl).1, (X.2 5 _ rfl).1⟩
  clear h hs
  obtain ⟨p0, hp0⟩ : ∃ p, ((w.alloc (Obj.cells #[.slice ta x.t.length tc, .slice la x.l.length lc, .int .i64 x.now, .int .i64 x.ver, .slice da x.dr.length dc, .slice ua x.us.length uc] 32)).alloc (Obj.cells #[.slice none 0 0, .slice none 0 0, .int .i64 0, .int .i64 0, .slice none 0 0, .slice none 0 0] 32)).drew.heap.size = p := ⟨_, rfl⟩
  go_enter Tryz.func82, Tryz.ntmps82
  go_wp2
  refine wp_region_held_drew (S := (fun W => W.cell? ⟨w.heap.size, 0, none⟩ = some (.slice ta x.t.length tc) ∧ W.cell? ⟨w.heap.size, 1, none⟩ = some (.slice la x.l.length lc) ∧ W.cell? ⟨w.heap.size, 2, none⟩ = some (.int .i64 x.now) ∧ W.cell? ⟨w.heap.size, 3, none⟩ = some (.int .i64 x.ver) ∧ W.cell? ⟨w.heap.size, 4, none⟩ = some (.slice da x.dr.length dc) ∧ W.cell? ⟨w.heap.size, 5, none⟩ = some (.slice ua x.us.length uc))) (by kernel_rfl) (flat _ X0.out) (fun hHeld => ?_)
  simp only [List.size_toArray, List.length_cons, List.length_nil, Nat.reduceAdd, Array.replicate_succ, Array.replicate_zero, List.push_toArray, List.nil_append, List.cons_append]
  refine wpAnyH_take (i := 0) (v := ?_) rfl (by kernel_rfl) (by kernel_rfl) (by kernel_rfl) (fun _ _ _ h => h) (Or.inl ⟨by rfl, ?_⟩) (by assumption) ?_
  rotate_left
  · intro w hSw; (try dsimp only at hSw); go_simp; try with_reducible rfl
  simp only [Act.put, List.getElem_toArray, List.getElem_cons_zero, List.setIfInBounds_toArray, List.set_cons_zero]
  refine wpAnyH_take (i := 1) (v := ?_) rfl (by kernel_rfl) (by kernel_rfl) (by kernel_rfl) (fun _ _ _ h => h) (Or.inl ⟨by rfl, ?_⟩) (by assumption) ?_
  rotate_left
  · intro w hSw; (try dsimp only at hSw); go_simp; try with_reducible rfl
  simp only [Act.put, List.getElem_toArray, List.getElem_cons_succ, List.getElem_cons_zero, List.setIfInBounds_toArray, List.set_cons_succ, List.set_cons_zero]
  refine wpAnyH_take (i := 3) (v := ?_) rfl (by kernel_rfl) (by kernel_rfl) (by kernel_rfl) (fun _ _ _ h => h) (Or.inl ⟨by rfl, ?_⟩) (by assumption) ?_
  rotate_left
  · intro w hSw; (try dsimp only at hSw); go_simp; try with_reducible rfl
  simp only [Act.put, List.getElem_toArray, List.getElem_cons_succ, List.getElem_cons_zero, List.setIfInBounds_toArray, List.set_cons_succ, List.set_cons_zero]
  refine wpAnyH_take (i := 4) (v := ?_) rfl (by kernel_rfl) (by kernel_rfl) (by kernel_rfl) (fun _ _ _ h => h) (Or.inl ⟨by rfl, ?_⟩) (by assumption) ?_
  rotate_left
  · intro w hSw; (try dsimp only at hSw); go_simp; try with_reducible rfl
  simp only [Act.put, List.getElem_toArray, List.getElem_cons_succ, List.getElem_cons_zero, List.setIfInBounds_toArray, List.set_cons_succ, List.set_cons_zero]
  refine wpAnyH_take (i := 6) (v := ?_) rfl (by kernel_rfl) (by kernel_rfl) (by kernel_rfl) (fun _ _ _ h => h) (Or.inl ⟨by rfl, ?_⟩) (by assumption) ?_
  rotate_left
  · intro w hSw; (try dsimp only at hSw); go_simp; try with_reducible rfl
  simp only [Act.put, List.getElem_toArray, List.getElem_cons_succ, List.getElem_cons_zero, List.setIfInBounds_toArray, List.set_cons_succ, List.set_cons_zero]
  refine wpAnyH_take (i := 7) (v := ?_) rfl (by kernel_rfl) (by kernel_rfl) (by kernel_rfl) (fun _ _ _ h => h) (Or.inl ⟨by rfl, ?_⟩) (by assumption) ?_
  rotate_left
  · intro w hSw; (try dsimp only at hSw); go_simp; try with_reducible rfl
  simp only [Act.put, List.getElem_toArray, List.getElem_cons_succ, List.getElem_cons_zero, List.setIfInBounds_toArray, List.set_cons_succ, List.set_cons_zero]
  refine wpAnyH_take (i := 8) (v := ?_) rfl (by kernel_rfl) (by kernel_rfl) (by kernel_rfl) (fun _ _ _ h => h) (Or.inl ⟨by rfl, ?_⟩) (by assumption) ?_
  rotate_left
  · intro w hSw; (try dsimp only at hSw); go_simp; try with_reducible rfl
  simp only [Act.put, List.getElem_toArray, List.getElem_cons_succ, List.getElem_cons_zero, List.setIfInBounds_toArray, List.set_cons_succ, List.set_cons_zero]
  refine wpAnyH_take (i := 9) (v := ?_) rfl (by kernel_rfl) (by kernel_rfl) (by kernel_rfl) (fun _ _ _ h => h) (Or.inl ⟨by rfl, ?_⟩) (by assumption) ?_
  rotate_left
  · intro w hSw; (try dsimp only at hSw); go_simp; try with_reducible rfl
  simp only [Act.put, List.getElem_toArray, List.getElem_cons_succ, List.getElem_cons_zero, List.setIfInBounds_toArray, List.set_cons_succ, List.set_cons_zero]
  refine wpAnyH_take (i := 10) (v := ?_) rfl (by kernel_rfl) (by kernel_rfl) (by kernel_rfl) (fun _ _ _ h => h) (Or.inl ⟨by rfl, ?_⟩) (by assumption) ?_
  rotate_left
  · intro w hSw; (try dsimp only at hSw); go_simp; try with_reducible rfl
  simp only [Act.put, List.getElem_toArray, List.getElem_cons_succ, List.getElem_cons_zero, List.setIfInBounds_toArray, List.set_cons_succ, List.set_cons_zero]
  refine wpAnyH_take (i := 11) (v := ?_) rfl (by kernel_rfl) (by kernel_rfl) (by kernel_rfl) (fun _ _ _ h => h) (Or.inl ⟨by rfl, ?_⟩) (by assumption) ?_
  rotate_left
  · intro w hSw; (try dsimp only at hSw); go_simp; try with_reducible rfl
  simp only [Act.put, List.getElem_toArray, List.getElem_cons_succ, List.getElem_cons_zero, List.setIfInBounds_toArray, List.set_cons_succ, List.set_cons_zero]
  refine wpAnyH_take (i := 13) (v := ?_) rfl (by kernel_rfl) (by kernel_rfl) (by kernel_rfl) (fun _ _ _ h => h) (Or.inl ⟨by rfl, ?_⟩) (by assumption) ?_
  rotate_left
  · intro w hSw; (try dsimp only at hSw); go_simp; try with_reducible rfl
  simp only [Act.put, List.getElem_toArray, List.getElem_cons_succ, List.getElem_cons_zero, List.setIfInBounds_toArray, List.set_cons_succ, List.set_cons_zero]
  refine wpAnyH_take (i := 14) (v := ?_) rfl (by kernel_rfl) (by kernel_rfl) (by kernel_rfl) (fun _ _ _ h => h) (Or.inl ⟨by rfl, ?_⟩) (by assumption) ?_
  rotate_left
  · intro w hSw; (try dsimp only at hSw); go_simp; try with_reducible rfl
  simp only [Act.put, List.getElem_toArray, List.getElem_cons_succ, List.getElem_cons_zero, List.setIfInBounds_toArray, List.set_cons_succ, List.set_cons_zero]
  refine wpAnyH_ready (rs := [2]) (by kernel_rfl) (by simp) ?_
  refine AllReadyH.cons rfl (fun K hK => ?_) AllReadyH.nil
  go_simp
  refine (HT.out _ K0.out).mono ?_
  rintro e w1 ⟨rfl, ⟨pb, qb, o0⟩, b1⟩
  have K1 := hide (K0.out.trans (b1.mono K0.out.size))
  have X1 := hide (X0.out.next b1)
  have Y1 := hide (Y0.out.next b1)
  have y1 := b1.size
  have yy1 : w.heap.size + 2 ≤ w1.heap.size := by have h := y1; simp at h; omega
  have O0_1 := hide (show Own w1 (.slice (some ⟨p0, 0, none⟩) x.t.length x.t.length) (.l (x.t.map dRs)) (IvG (w.heap.size + 2) w1.heap.size) by
    have h := own_of_ownR o0 hml hmr
    have hh := h.up (l' := w.heap.size + 2) (u' := w1.heap.size) (by simp) (Nat.le_refl _)
    rw [hp0] at hh
    exact hh)
  rw [hp0]
  clear o0 b1 HT K0 X0 Y0
  refine hK.out _ _ (flat _ X1.out) (fun hHeld2 => ?_)
  clear hK K hHeld
  have hHeld := hHeld2
  clear hHeld2
  simp only [List.setIfInBounds_toArray, List.set_cons_succ, List.set_cons_zero]
  refine wpAnyH_ready (rs := [5]) (by kernel_rfl) (by simp) ?_
  refine AllReadyH.cons rfl (fun K hK => ?_) AllReadyH.nil
  go_simp
  refine (HL.out _ K1.out).mono ?_
  rintro e w2 ⟨⟨p1, rfl, hp1, pb1, o1⟩, b2⟩
  have K2 := hide (K1.out.trans (b2.mono K1.out.size))
  have X2 := hide (X1.out.next b2)
  have Y2 := hide (Y1.out.next b2)
  have y2 := b2.size
  have O0_2 := hide (O0_1.out.next b2)
  have O1_2 := hide (show Own w2 (.slice (some ⟨p1, 0, none⟩) x.l.length x.l.length) (.l (x.l.map dLk)) (IvG w1.heap.size w2.heap.size) from (own_of_ownL o1 hmk).up hp1 (Nat.le_refl _))
  clear o1 b2 HL K1 X1 Y1 O0_1 hp1
  refine hK.out _ _ (flat _ X2.out) (fun hHeld2 => ?_)
  clear hK K hHeld
  have hHeld := hHeld2
  clear hHeld2
  simp only [List.setIfInBounds_toArray, List.set_cons_succ, List.set_cons_zero]
  refine wpAnyH_ready (rs := [12]) (by kernel_rfl) (by simp) ?_
  refine AllReadyH.cons rfl (fun K hK => ?_) AllReadyH.nil
  go_simp
  obtain ⟨p4, hp4⟩ : ∃ p, w2.heap.size = p := ⟨_, rfl⟩
  refine (HD.out _ K2.out).mono ?_
  rintro e w3 ⟨⟨rfl, o4⟩, b3, z3⟩
  rw [hp4] at o4 z3 ⊢
  have K3 := hide (K2.out.trans (b3.mono K2.out.size))
  have X3 := hide (X2.out.next b3)
  have Y3 := hide (Y2.out.next b3)
  have y3 := b3.size
  have O0_3 := hide (O0_2.out.next b3)
  have O1_3 := hide (O1_2.out.next b3)
  have O4_3 := hide (show Own w3 (.slice (some ⟨p4, 0, none⟩) x.dr.length x.dr.length) (.l (x.dr.map dI)) (IvG w2.heap.size w3.heap.size) from o4.wide (fun y hy => by subst hy; exact ⟨Nat.le_of_eq hp4, z3⟩))
  clear o4 b3 z3 HD K2 X2 Y2 O0_2 O1_2 hp4
  refine hK.out _ _ (flat _ X3.out) (fun hHeld2 => ?_)
  clear hK K hHeld
  have hHeld := hHeld2
  clear hHeld2
  simp only [List.setIfInBounds_toArray, List.set_cons_succ, List.set_cons_zero]
  refine wpAnyH_ready (rs := [15]) (by kernel_rfl) (by simp) ?_
  refine AllReadyH.cons rfl (fun K hK => ?_) AllReadyH.nil
  go_simp
  obtain ⟨p5, hp5⟩ : ∃ p, w3.heap.size = p := ⟨_, rfl⟩
  refine (HU.out _ K3.out).mono ?_
  rintro e w4 ⟨⟨rfl, o5⟩, b4, z4⟩
  rw [hp5] at o5 z4 ⊢
  have K4 := hide (K3.out.trans (b4.mono K3.out.size))
  have X4 := hide (X3.out.next b4)
  have Y4 := hide (Y3.out.next b4)
  have y4 := b4.size
  have O0_4 := hide (O0_3.out.next b4)
  have O1_4 := hide (O1_3.out.next b4)
  have O4_4 := hide (O4_3.out.next b4)
  have O5_4 := hide (show Own w4 (.slice (some ⟨p5, 0, none⟩) x.us.length x.us.length) (.l (x.us.map dI)) (IvG w3.heap.size w4.heap.size) from o5.wide (fun y hy => by subst hy; exact ⟨Nat.le_of_eq hp5, z4⟩))
  clear o5 b4 z4 HU K3 X3 Y3 O0_3 O1_3 O4_3 hp5
  refine hK.out _ _ (flat _ X4.out) (fun hHeld2 => ?_)
  clear hK K hHeld
  have hHeld := hHeld2
  clear hHeld2
  simp only [List.setIfInBounds_toArray, List.set_cons_succ, List.set_cons_zero]
  refine wpAnyH_take (i := 16) (v := ?_) rfl (by kernel_rfl) (by kernel_rfl) (by kernel_rfl) (fun _ _ _ h => h) (Or.inl ⟨by rfl, ?_⟩) (by assumption) ?_
  rotate_left
  · intro w hSw; (try dsimp only at hSw); go_simp; try with_reducible rfl
  simp only [Act.put, List.getElem_toArray, List.getElem_cons_succ, List.getElem_cons_zero, List.setIfInBounds_toArray, List.set_cons_succ, List.set_cons_zero]
  refine wpAnyH_ready (rs := [17]) (by kernel_rfl) (by simp) ?_
  refine AllReadyH.cons rfl (fun K hK => ?_) AllReadyH.nil
  obtain ⟨d0, f0⟩ := Y4.out.2 0 _ rfl
  obtain ⟨d1, f1⟩ := Y4.out.2 1 _ rfl
  obtain ⟨d2, f2⟩ := Y4.out.2 2 _ rfl
  obtain ⟨d3, f3⟩ := Y4.out.2 3 _ rfl
  obtain ⟨d4, f4⟩ := Y4.out.2 4 _ rfl
  obtain ⟨d5, f5⟩ := Y4.out.2 5 _ rfl
  go_simp
  clear d0 f0 d1 f1 d2 f2 d3 f3 d4 f4 d5 f5
  have XE := hide ((((((X4.out.other ⟨w.heap.size + 1, 0, none⟩ (.slice (some ⟨p0, 0, none⟩) x.t.length x.t.length) (by show w.heap.size + 1 ≠ w.heap.size; omega)).other ⟨w.heap.size + 1, 1, none⟩ (.slice (some ⟨p1, 0, none⟩) x.l.length x.l.length) (by show w.heap.size + 1 ≠ w.heap.size; omega)).other ⟨w.heap.size + 1, 2, none⟩ (.int .i64 x.now) (by show w.heap.size + 1 ≠ w.heap.size; omega)).other ⟨w.heap.size + 1, 3, none⟩ (.int .i64 x.ver) (by show w.heap.size + 1 ≠ w.heap.size; omega)).other ⟨w.heap.size + 1, 4, none⟩ (.slice (some ⟨p4, 0, none⟩) x.dr.length x.dr.length) (by show w.heap.size + 1 ≠ w.heap.size; omega)).other ⟨w.heap.size + 1, 5, none⟩ (.slice (some ⟨p5, 0, none⟩) x.us.length x.us.length) (by show w.heap.size + 1 ≠ w.heap.size; omega))
  have ZE := hide (show BoxV ((((((w4.setCell ⟨w.heap.size + 1, 0, none⟩ (.slice (some ⟨p0, 0, none⟩) x.t.length x.t.length)).setCell ⟨w.heap.size + 1, 1, none⟩ (.slice (some ⟨p1, 0, none⟩) x.l.length x.l.length)).setCell ⟨w.heap.size + 1, 2, none⟩ (.int .i64 x.now)).setCell ⟨w.heap.size + 1, 3, none⟩ (.int .i64 x.ver)).setCell ⟨w.heap.size + 1, 4, none⟩ (.slice (some ⟨p4, 0, none⟩) x.dr.length x.dr.length)).setCell ⟨w.heap.size + 1, 5, none⟩ (.slice (some ⟨p5, 0, none⟩) x.us.length x.us.length)) (w.heap.size + 1) [.slice (some ⟨p0, 0, none⟩) x.t.length x.t.length, .slice (some ⟨p1, 0, none⟩) x.l.length x.l.length, .int .i64 x.now, .int .i64 x.ver, .slice (some ⟨p4, 0, none⟩) x.dr.length x.dr.length, .slice (some ⟨p5, 0, none⟩) x.us.length x.us.length] from ((((((Y4.out.set 0 (by simp) (.slice (some ⟨p0, 0, none⟩) x.t.length x.t.length)).set 1 (by simp) (.slice (some ⟨p1, 0, none⟩) x.l.length x.l.length)).set 2 (by simp) (.int .i64 x.now)).set 3 (by simp) (.int .i64 x.ver)).set 4 (by simp) (.slice (some ⟨p4, 0, none⟩) x.dr.length x.dr.length)).set 5 (by simp) (.slice (some ⟨p5, 0, none⟩) x.us.length x.us.length)))
  have KE := hide ((((((K4.out.setCell (p := ⟨w.heap.size + 1, 0, none⟩) (by show w.heap.size ≤ w.heap.size + 1; omega) (.slice (some ⟨p0, 0, none⟩) x.t.length x.t.length)).setCell (p := ⟨w.heap.size + 1, 1, none⟩) (by show w.heap.size ≤ w.heap.size + 1; omega) (.slice (some ⟨p1, 0, none⟩) x.l.length x.l.length)).setCell (p := ⟨w.heap.size + 1, 2, none⟩) (by show w.heap.size ≤ w.heap.size + 1; omega) (.int .i64 x.now)).setCell (p := ⟨w.heap.size + 1, 3, none⟩) (by show w.heap.size ≤ w.heap.size + 1; omega) (.int .i64 x.ver)).setCell (p := ⟨w.heap.size + 1, 4, none⟩) (by show w.heap.size ≤ w.heap.size + 1; omega) (.slice (some ⟨p4, 0, none⟩) x.dr.length x.dr.length)).setCell (p := ⟨w.heap.size + 1, 5, none⟩) (by show w.heap.size ≤ w.heap.size + 1; omega) (.slice (some ⟨p5, 0, none⟩) x.us.length x.us.length))
  have E0 := hide (((((((show Own w4 (.slice (some ⟨p0, 0, none⟩) x.t.length x.t.length) (.l (x.t.map dRs)) (IvG (w.heap.size + 2) w1.heap.size) from O0_4.out).setCell ⟨w.heap.size + 1, 0, none⟩ (.slice (some ⟨p0, 0, none⟩) x.t.length x.t.length) (fun e => by have h1 := e.1; dsimp only at h1; omega)).setCell ⟨w.heap.size + 1, 1, none⟩ (.slice (some ⟨p1, 0, none⟩) x.l.length x.l.length) (fun e => by have h1 := e.1; dsimp only at h1; omega)).setCell ⟨w.heap.size + 1, 2, none⟩ (.int .i64 x.now) (fun e => by have h1 := e.1; dsimp only at h1; omega)).setCell ⟨w.heap.size + 1, 3, none⟩ (.int .i64 x.ver) (fun e => by have h1 := e.1; dsimp only at h1; omega)).setCell ⟨w.heap.size + 1, 4, none⟩ (.slice (some ⟨p4, 0, none⟩) x.dr.length x.dr.length) (fun e => by have h1 := e.1; dsimp only at h1; omega)).setCell ⟨w.heap.size + 1, 5, none⟩ (.slice (some ⟨p5, 0, none⟩) x.us.length x.us.length) (fun e => by have h1 := e.1; dsimp only at h1; omega))
  have E1 := hide ((((((O1_4.out.setCell ⟨w.heap.size + 1, 0, none⟩ (.slice (some ⟨p0, 0, none⟩) x.t.length x.t.length) (fun e => by have h1 := e.1; dsimp only at h1; omega)).setCell ⟨w.heap.size + 1, 1, none⟩ (.slice (some ⟨p1, 0, none⟩) x.l.length x.l.length) (fun e => by have h1 := e.1; dsimp only at h1; omega)).setCell ⟨w.heap.size + 1, 2, none⟩ (.int .i64 x.now) (fun e => by have h1 := e.1; dsimp only at h1; omega)).setCell ⟨w.heap.size + 1, 3, none⟩ (.int .i64 x.ver) (fun e => by have h1 := e.1; dsimp only at h1; omega)).setCell ⟨w.heap.size + 1, 4, none⟩ (.slice (some ⟨p4, 0, none⟩) x.dr.length x.dr.length) (fun e => by have h1 := e.1; dsimp only at h1; omega)).setCell ⟨w.heap.size + 1, 5, none⟩ (.slice (some ⟨p5, 0, none⟩) x.us.length x.us.length) (fun e => by have h1 := e.1; dsimp only at h1; omega))
  have E4 := hide ((((((O4_4.out.setCell ⟨w.heap.size + 1, 0, none⟩ (.slice (some ⟨p0, 0, none⟩) x.t.length x.t.length) (fun e => by have h1 := e.1; dsimp only at h1; omega)).setCell ⟨w.heap.size + 1, 1, none⟩ (.slice (some ⟨p1, 0, none⟩) x.l.length x.l.length) (fun e => by have h1 := e.1; dsimp only at h1; omega)).setCell ⟨w.heap.size + 1, 2, none⟩ (.int .i64 x.now) (fun e => by have h1 := e.1; dsimp only at h1; omega)).setCell ⟨w.heap.size + 1, 3, none⟩ (.int .i64 x.ver) (fun e => by have h1 := e.1; dsimp only at h1; omega)).setCell ⟨w.heap.size + 1, 4, none⟩ (.slice (some ⟨p4, 0, none⟩) x.dr.length x.dr.length) (fun e => by have h1 := e.1; dsimp only at h1; omega)).setCell ⟨w.heap.size + 1, 5, none⟩ (.slice (some ⟨p5, 0, none⟩) x.us.length x.us.length) (fun e => by have h1 := e.1; dsimp only at h1; omega))
  have E5 := hide ((((((O5_4.out.setCell ⟨w.heap.size + 1, 0, none⟩ (.slice (some ⟨p0, 0, none⟩) x.t.length x.t.length) (fun e => by have h1 := e.1; dsimp only at h1; omega)).setCell ⟨w.heap.size + 1, 1, none⟩ (.slice (some ⟨p1, 0, none⟩) x.l.length x.l.length) (fun e => by have h1 := e.1; dsimp only at h1; omega)).setCell ⟨w.heap.size + 1, 2, none⟩ (.int .i64 x.now) (fun e => by have h1 := e.1; dsimp only at h1; omega)).setCell ⟨w.heap.size + 1, 3, none⟩ (.int .i64 x.ver) (fun e => by have h1 := e.1; dsimp only at h1; omega)).setCell ⟨w.heap.size + 1, 4, none⟩ (.slice (some ⟨p4, 0, none⟩) x.dr.length x.dr.length) (fun e => by have h1 := e.1; dsimp only at h1; omega)).setCell ⟨w.heap.size + 1, 5, none⟩ (.slice (some ⟨p5, 0, none⟩) x.us.length x.us.length) (fun e => by have h1 := e.1; dsimp only at h1; omega))
  clear X4 Y4 K4 O0_4 O1_4 O4_4 O5_4
  refine hK.out _ _ (flat _ XE.out) (fun hHeld2 => ?_)
  clear hK K hHeld
  have hHeld := hHeld2
  clear hHeld2
  simp only [List.setIfInBounds_toArray, List.set_cons_succ, List.set_cons_zero]
  refine wpAnyH_done (by kernel_rfl) ?_ _
  clear hHeld
  obtain ⟨r0, g0⟩ := ZE.out.2 0 _ rfl
  obtain ⟨r1, g1⟩ := ZE.out.2 1 _ rfl
  obtain ⟨r2, g2⟩ := ZE.out.2 2 _ rfl
  obtain ⟨r3, g3⟩ := ZE.out.2 3 _ rfl
  obtain ⟨r4, g4⟩ := ZE.out.2 4 _ rfl
  obtain ⟨r5, g5⟩ := ZE.out.2 5 _ rfl
  go_wp2
  refine bodyPost_ret (v := .agg #[.slice (some ⟨p0, 0, none⟩) x.t.length x.t.length, .slice (some ⟨p1, 0, none⟩) x.l.length x.l.length, .int .i64 x.now, .int .i64 x.ver, .slice (some ⟨p4, 0, none⟩) x.dr.length x.dr.length, .slice (some ⟨p5, 0, none⟩) x.us.length x.us.length]) (by simp [results, Tryz.results82, go_sem, r0, r1, r2, r3, r4, r5]) rfl ⟨⟨p0, p1, p4, p5, w1.heap.size, w2.heap.size, w3.heap.size, rfl, E0.out.up (by omega) (Nat.le_refl _), ?_, E1.out, y2, E4.out, y3, E5.out.up (Nat.le_refl _) (by simp), by simpa using y4⟩, KE.out⟩
  have := y1
  simp at this
  omega
end Go.Proofs.YtcgljeagjchobaaGreat
