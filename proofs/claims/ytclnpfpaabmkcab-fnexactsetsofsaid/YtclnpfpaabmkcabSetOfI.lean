/-
  What impl.setOf does.
-/
import Derived.Test.YtclnpfpaabmkcabSetsIn
import Derived.Deep.RegionHeld3
namespace Go.Proofs.Ytclnpfpaabmkcab
open Go.RowKit M
set_option linter.unusedVariables false

/-- A node in a box, and the answer's box, as they stand. -/
structure NO (w : World) (x y z : ByteArray) (W : World) : Prop where
  x : W.cell? ⟨w.heap.size, 0, none⟩ = some (.string x) ∧ W.cell? ⟨w.heap.size, 1, none⟩ = some (.string y) ∧ W.cell? ⟨w.heap.size, 2, none⟩ = some (.string z)
  r : Bx W (w.heap.size + 1) (.bool false) (.string ⟨#[]⟩) (.string ⟨#[]⟩) (.string ⟨#[]⟩)
  b : Below w.heap.size w W
  sz : w.heap.size + 2 ≤ W.heap.size
theorem NO.below {w W w1 : World} {x y z : ByteArray} (h : NO w x y z W) (hb : Below W.heap.size W w1) : NO w x y z w1 := by
  have hl : w.heap.size < W.heap.size := by have := h.sz; omega
  have e : ∀ o, w1.cell? ⟨w.heap.size, o, none⟩ = W.cell? ⟨w.heap.size, o, none⟩ := fun o => hb.cell (p := ⟨w.heap.size, o, none⟩) hl
  refine ⟨by simp only [e]; exact h.x, h.r.next hb (by have := h.sz; omega), h.b.trans (hb.mono h.b.size), Nat.le_trans h.sz hb.size⟩
theorem NO.alloc {w W : World} {x y z : ByteArray} (h : NO w x y z W) (o : Obj) : NO w x y z (W.alloc o) := h.below ((Below.refl _ _).alloc (Nat.le_refl _) o)
theorem NO.setM {w W : World} {x y z : ByteArray} {M k : Nat} {v : Value} (h : NO w x y z W) (hM : w.heap.size + 2 ≤ M) : NO w x y z (W.setCell ⟨M, k, none⟩ v) := by
  have e : ∀ o, (W.setCell ⟨M, k, none⟩ v).cell? ⟨w.heap.size, o, none⟩ = W.cell? ⟨w.heap.size, o, none⟩ := fun o => World.cell?_of_block (a := ⟨w.heap.size, o, none⟩) (Below.heap_setCell _ _ _ _ (by show w.heap.size ≠ M; omega))
  refine ⟨by simp only [e]; exact h.x, h.r.other v (by omega), h.b.setCell (by show w.heap.size ≤ M; omega) _, by simpa using h.sz⟩

set_option maxRecDepth 100000 in
set_option maxHeartbeats 16000000 in
theorem setOf_any (d : Bool) (x y z : ByteArray) (a : Option Addr) (n c : Nat) (w : World) (hz : x.size ≤ 281474976710656 ∧ y.size ≤ 281474976710656 ∧ z.size ≤ 281474976710656) :
    Calls Try.prog 96 #[.agg #[.string x, .string y, .string z, .slice a n c], .bool d] w fun e w' => e = .returned (.agg #[.bool d, .string x, .string y, .string (if d then ⟨#[]⟩ else z)]) ∧ Below w.heap.size w w' := by
  have HNO := hide (show NO w x y z ((w.alloc (Obj.cells #[.string x, .string y, .string z, .slice a n c] 59)).alloc (Obj.cells #[Value.bool false, Value.string { data := #[] }, Value.string { data := #[] }, Value.string { data := #[] }] 93)) from ⟨by simp [go_sem], by have := Bx.made (w.alloc (Obj.cells #[.string x, .string y, .string z, .slice a n c] 59)) (.bool false) (.string ⟨#[]⟩) (.string ⟨#[]⟩) (.string ⟨#[]⟩) 93; simpa using this, ((Below.refl _ _).alloc (Nat.le_refl _) _).alloc (by simp) _, by simp⟩)
  obtain ⟨W0, hW0⟩ : ∃ W, (w.alloc (Obj.cells #[.string x, .string y, .string z, .slice a n c] 59)).alloc (Obj.cells #[Value.bool false, Value.string { data := #[] }, Value.string { data := #[] }, Value.string { data := #[] }] 93) = W := ⟨_, rfl⟩
  rw [hW0] at HNO
  cases d
  · show Calls Try.prog 96 _ w fun e w' => e = .returned (.agg #[.bool false, .string x, .string y, .string z]) ∧ Below w.heap.size w w'
    go_enter Try.func96, Try.ntmps96
    go_wp2_with fail
    try rw [hW0]
    clear hW0
    refine wp_region_held_drew (S := (fun W => NO w x y z W)) (by kernel_rfl) (by exact HNO.out.below (below_drewP (Below.refl _ _))) (fun hHeld => ?_)
    simp only [List.size_toArray, List.length_cons, List.length_nil, Nat.reduceAdd, Array.replicate_succ, Array.replicate_zero, List.push_toArray, List.nil_append, List.cons_append]
    refine wpAnyH_take (i := 0) (v := ?_) rfl (by kernel_rfl) (by kernel_rfl) (by kernel_rfl) (fun _ _ _ h => h) (Or.inl ⟨by rfl, ?_⟩) (by assumption) ?_
    rotate_left
    · intro w hSw; (try dsimp only at hSw); obtain ⟨hs0, hs1, hs2⟩ := hSw.x; go_simp; try with_reducible rfl
    simp only [Act.put, List.getElem_toArray, List.getElem_cons_zero, List.setIfInBounds_toArray, List.set_cons_zero]
    refine wpAnyH_take (i := 1) (v := ?_) rfl (by kernel_rfl) (by kernel_rfl) (by kernel_rfl) (fun _ _ _ h => h) (Or.inl ⟨by rfl, ?_⟩) (by assumption) ?_
    rotate_left
    · intro w hSw; (try dsimp only at hSw); obtain ⟨hs0, hs1, hs2⟩ := hSw.x; go_simp; try with_reducible rfl
    simp only [Act.put, List.getElem_toArray, List.getElem_cons_succ, List.getElem_cons_zero, List.setIfInBounds_toArray, List.set_cons_succ, List.set_cons_zero]
    refine wpAnyH_take (i := 2) (v := ?_) rfl (by kernel_rfl) (by kernel_rfl) (by kernel_rfl) (fun _ _ _ h => h) (Or.inl ⟨by rfl, ?_⟩) (by assumption) ?_
    rotate_left
    · intro w hSw; (try dsimp only at hSw); obtain ⟨hs0, hs1, hs2⟩ := hSw.x; go_simp; try with_reducible rfl
    simp only [Act.put, List.getElem_toArray, List.getElem_cons_succ, List.getElem_cons_zero, List.setIfInBounds_toArray, List.set_cons_succ, List.set_cons_zero]
    refine wpAnyH_take (i := 4) (v := ?_) rfl (by kernel_rfl) (by kernel_rfl) (by kernel_rfl) (fun _ _ _ h => h) (Or.inl ⟨by rfl, ?_⟩) (by assumption) ?_
    rotate_left
    · intro w hSw; (try dsimp only at hSw); obtain ⟨hs0, hs1, hs2⟩ := hSw.x; go_simp; try with_reducible rfl
    simp only [Act.put, List.getElem_toArray, List.getElem_cons_succ, List.getElem_cons_zero, List.setIfInBounds_toArray, List.set_cons_succ, List.set_cons_zero]
    refine wpAnyH_take (i := 5) (v := ?_) rfl (by kernel_rfl) (by kernel_rfl) (by kernel_rfl) (fun _ _ _ h => h) (Or.inl ⟨by rfl, ?_⟩) (by assumption) ?_
    rotate_left
    · intro w hSw; (try dsimp only at hSw); obtain ⟨hs0, hs1, hs2⟩ := hSw.x; go_simp; try with_reducible rfl
    simp only [Act.put, List.getElem_toArray, List.getElem_cons_succ, List.getElem_cons_zero, List.setIfInBounds_toArray, List.set_cons_succ, List.set_cons_zero]
    refine wpAnyH_ready (rs := [3, 9]) (by kernel_rfl) (by simp) ?_
    refine AllReadyH.cons rfl (fun K hK => ?_) (AllReadyH.cons rfl (fun K hK => ?_) AllReadyH.nil)
    · go_simp
      refine (clone_any x _ hz.1).mono ?_
      rintro e w3 ⟨rfl, b3⟩
      refine hK.out _ _ (hHeld.below b3) (fun hHeld2 => ?_)
      clear hK K hHeld
      have hHeld := hHeld2
      clear hHeld2
      simp only [List.setIfInBounds_toArray, List.set_cons_succ, List.set_cons_zero]
      refine wpAnyH_ready (rs := [6, 9]) (by kernel_rfl) (by simp) ?_
      refine AllReadyH.cons rfl (fun K hK => ?_) (AllReadyH.cons rfl (fun K hK => ?_) AllReadyH.nil)
      · go_simp
        refine (clone_any y _ hz.2.1).mono ?_
        rintro e w4 ⟨rfl, b4⟩
        refine hK.out _ _ (hHeld.below b4) (fun hHeld2 => ?_)
        clear hK K hHeld
        have hHeld := hHeld2
        clear hHeld2
        simp only [List.setIfInBounds_toArray, List.set_cons_succ, List.set_cons_zero]
        refine wpAnyH_take (i := 7) (v := ?_) rfl (by kernel_rfl) (by kernel_rfl) (by kernel_rfl) (fun _ _ _ h => h) (Or.inl ⟨by rfl, ?_⟩) (by assumption) ?_
        rotate_left
        · intro w hSw; (try dsimp only at hSw); obtain ⟨hs0, hs1, hs2⟩ := hSw.x; go_simp; try with_reducible rfl
        simp only [Act.put, List.getElem_toArray, List.getElem_cons_succ, List.getElem_cons_zero, List.setIfInBounds_toArray, List.set_cons_succ, List.set_cons_zero]
        refine wpAnyH_take (i := 8) (v := ?_) rfl (by kernel_rfl) (by kernel_rfl) (by kernel_rfl) (fun _ _ _ h => h) (Or.inl ⟨by rfl, ?_⟩) (by assumption) ?_
        rotate_left
        · intro w hSw; (try dsimp only at hSw); obtain ⟨hs0, hs1, hs2⟩ := hSw.x; go_simp; try with_reducible rfl
        simp only [Act.put, List.getElem_toArray, List.getElem_cons_succ, List.getElem_cons_zero, List.setIfInBounds_toArray, List.set_cons_succ, List.set_cons_zero]
        refine wpAnyH_ready (rs := [9]) (by kernel_rfl) (by simp) ?_
        refine AllReadyH.cons rfl (fun K hK => ?_) AllReadyH.nil
        go_simp
        have BM104 : Bx (w4.alloc (Obj.cells #[Value.bool false, Value.string { data := #[] }, Value.string { data := #[] }, Value.string { data := #[] }] 93)) w4.heap.size (.bool false) (.string ⟨#[]⟩) (.string ⟨#[]⟩) (.string ⟨#[]⟩) := Bx.made w4 (.bool false) (.string ⟨#[]⟩) (.string ⟨#[]⟩) (.string ⟨#[]⟩) 93
        have hM0 : w.heap.size + 2 ≤ w4.heap.size := hHeld.sz
        have hPrev := hHeld
        refine hK.out _ _ (hHeld.alloc _) (fun hHeld2 => ?_)
        clear hK K hHeld
        have hHeld := hHeld2
        clear hHeld2
        simp only [List.setIfInBounds_toArray, List.set_cons_succ, List.set_cons_zero]
        refine wpAnyH_ready (rs := [10]) (by kernel_rfl) (by simp) ?_
        refine AllReadyH.cons rfl (fun K hK => ?_) AllReadyH.nil
        have BMZ : Bx (w4.alloc (Obj.cells #[.bool false, .string x, .string y, .string ⟨#[]⟩] 93)) w4.heap.size (.bool false) (.string x) (.string y) (.string ⟨#[]⟩) := Bx.made w4 _ _ _ _ 93
        go_simp
        refine hK.out _ _ (hPrev.alloc _) (fun hHeld2 => ?_)
        clear hPrev
        clear hK K hHeld
        have hHeld := hHeld2
        clear hHeld2
        simp only [List.setIfInBounds_toArray, List.set_cons_succ, List.set_cons_zero]
        refine wpAnyH_done (by kernel_rfl) ?_ _
        have hMM : w.heap.size + 2 ≤ w4.heap.size := hM0
        obtain ⟨MM, hMMe⟩ : ∃ M, w4.heap.size = M := ⟨_, rfl⟩
        obtain ⟨W5, hW5⟩ : ∃ W, (w4.alloc (Obj.cells #[.bool false, .string x, .string y, .string ⟨#[]⟩] 93)) = W := ⟨_, rfl⟩
        rw [hW5] at hHeld BMZ ⊢
        rw [hMMe] at hMM BMZ ⊢
        clear hW5 hMMe hM0
        obtain ⟨x0, x1, x2⟩ := hHeld.x
        go_wp2_with fail
        refine (clone_any z _ hz.2.2).mono ?_
        rintro e w9 ⟨rfl, b9⟩
        have hH9 := hHeld.below b9
        have BM9 := BMZ.next b9 BMZ.lt
        have BMs := BM9.set3 (.string z)
        have hHs := hH9.setM (k := 3) (v := .string z) hMM
        obtain ⟨W6, hW6⟩ : ∃ W, w9.setCell ⟨MM, 3, none⟩ (.string z) = W := ⟨_, rfl⟩
        rw [hW6] at BMs hHs
        obtain ⟨_, n0, n1, n2, n3, nz⟩ := BMs
        obtain ⟨_, q0, q1, q2, q3, qz⟩ := BM9
        obtain ⟨_, r0, r1, r2, r3, rz⟩ := hHs.r
        have HB := hide hHs.b
        clear hHeld hHs hH9 BMZ
        go_wp2
        refine bodyPost_ret (v := .agg #[.bool false, .string x, .string y, .string z]) (by simp [results, Try.results96, go_sem, r0, r1, r2, r3]) rfl ⟨rfl, ?_⟩
        exact (((HB.out.setCell (by simp) _).setCell (by simp) _).setCell (by simp) _).setCell (by simp) _
      · go_simp
        have BM103 : Bx (w3.alloc (Obj.cells #[Value.bool false, Value.string { data := #[] }, Value.string { data := #[] }, Value.string { data := #[] }] 93)) w3.heap.size (.bool false) (.string ⟨#[]⟩) (.string ⟨#[]⟩) (.string ⟨#[]⟩) := Bx.made w3 (.bool false) (.string ⟨#[]⟩) (.string ⟨#[]⟩) (.string ⟨#[]⟩) 93
        have hM0 : w.heap.size + 2 ≤ w3.heap.size := hHeld.sz
        have hPrev := hHeld
        refine hK.out _ _ (hHeld.alloc _) (fun hHeld2 => ?_)
        clear hK K hHeld
        have hHeld := hHeld2
        clear hHeld2
        simp only [List.setIfInBounds_toArray, List.set_cons_succ, List.set_cons_zero]
        refine wpAnyH_ready (rs := [6]) (by kernel_rfl) (by simp) ?_
        refine AllReadyH.cons rfl (fun K hK => ?_) AllReadyH.nil
        go_simp
        refine (clone_any y _ hz.2.1).mono ?_
        rintro e w4 ⟨rfl, b4⟩
        have BM4 := BM103.next b4 BM103.lt
        refine hK.out _ _ (hHeld.below b4) (fun hHeld2 => ?_)
        clear hK K hHeld
        have hHeld := hHeld2
        clear hHeld2
        simp only [List.setIfInBounds_toArray, List.set_cons_succ, List.set_cons_zero]
        refine wpAnyH_take (i := 7) (v := ?_) rfl (by kernel_rfl) (by kernel_rfl) (by kernel_rfl) (fun _ _ _ h => h) (Or.inl ⟨by rfl, ?_⟩) (by assumption) ?_
        rotate_left
        · intro w hSw; (try dsimp only at hSw); obtain ⟨hs0, hs1, hs2⟩ := hSw.x; go_simp; try with_reducible rfl
        simp only [Act.put, List.getElem_toArray, List.getElem_cons_succ, List.getElem_cons_zero, List.setIfInBounds_toArray, List.set_cons_succ, List.set_cons_zero]
        refine wpAnyH_take (i := 8) (v := ?_) rfl (by kernel_rfl) (by kernel_rfl) (by kernel_rfl) (fun _ _ _ h => h) (Or.inl ⟨by rfl, ?_⟩) (by assumption) ?_
        rotate_left
        · intro w hSw; (try dsimp only at hSw); obtain ⟨hs0, hs1, hs2⟩ := hSw.x; go_simp; try with_reducible rfl
        simp only [Act.put, List.getElem_toArray, List.getElem_cons_succ, List.getElem_cons_zero, List.setIfInBounds_toArray, List.set_cons_succ, List.set_cons_zero]
        refine wpAnyH_ready (rs := [10]) (by kernel_rfl) (by simp) ?_
        refine AllReadyH.cons rfl (fun K hK => ?_) AllReadyH.nil
        have BMZ := Bx.put4 BM4 (.bool false) (.string x) (.string y) (.string ⟨#[]⟩)
        obtain ⟨_, m0, m1, m2, m3, mz⟩ := BM4
        go_simp
        refine hK.out _ _ ((((hHeld.setM hM0).setM hM0).setM hM0).setM hM0) (fun hHeld2 => ?_)
        clear hK K hHeld
        have hHeld := hHeld2
        clear hHeld2
        simp only [List.setIfInBounds_toArray, List.set_cons_succ, List.set_cons_zero]
        refine wpAnyH_done (by kernel_rfl) ?_ _
        have hMM : w.heap.size + 2 ≤ w3.heap.size := hM0
        obtain ⟨MM, hMMe⟩ : ∃ M, w3.heap.size = M := ⟨_, rfl⟩
        obtain ⟨W5, hW5⟩ : ∃ W, ((((w4.setCell ⟨w3.heap.size, 0, none⟩ (.bool false)).setCell ⟨w3.heap.size, 1, none⟩ (.string x)).setCell ⟨w3.heap.size, 2, none⟩ (.string y)).setCell ⟨w3.heap.size, 3, none⟩ (.string ⟨#[]⟩)) = W := ⟨_, rfl⟩
        rw [hW5] at hHeld BMZ ⊢
        rw [hMMe] at hMM BMZ ⊢
        clear hW5 hMMe hM0
        obtain ⟨x0, x1, x2⟩ := hHeld.x
        go_wp2_with fail
        refine (clone_any z _ hz.2.2).mono ?_
        rintro e w9 ⟨rfl, b9⟩
        have hH9 := hHeld.below b9
        have BM9 := BMZ.next b9 BMZ.lt
        have BMs := BM9.set3 (.string z)
        have hHs := hH9.setM (k := 3) (v := .string z) hMM
        obtain ⟨W6, hW6⟩ : ∃ W, w9.setCell ⟨MM, 3, none⟩ (.string z) = W := ⟨_, rfl⟩
        rw [hW6] at BMs hHs
        obtain ⟨_, n0, n1, n2, n3, nz⟩ := BMs
        obtain ⟨_, q0, q1, q2, q3, qz⟩ := BM9
        obtain ⟨_, r0, r1, r2, r3, rz⟩ := hHs.r
        have HB := hide hHs.b
        clear hHeld hHs hH9 BMZ
        go_wp2
        refine bodyPost_ret (v := .agg #[.bool false, .string x, .string y, .string z]) (by simp [results, Try.results96, go_sem, r0, r1, r2, r3]) rfl ⟨rfl, ?_⟩
        exact (((HB.out.setCell (by simp) _).setCell (by simp) _).setCell (by simp) _).setCell (by simp) _
    · go_simp
      have BM102 : Bx (W0.drew.alloc (Obj.cells #[Value.bool false, Value.string { data := #[] }, Value.string { data := #[] }, Value.string { data := #[] }] 93)) W0.heap.size (.bool false) (.string ⟨#[]⟩) (.string ⟨#[]⟩) (.string ⟨#[]⟩) := Bx.made W0.drew (.bool false) (.string ⟨#[]⟩) (.string ⟨#[]⟩) (.string ⟨#[]⟩) 93
      have hM0 : w.heap.size + 2 ≤ W0.heap.size := hHeld.sz
      have hPrev := hHeld
      refine hK.out _ _ (hHeld.alloc _) (fun hHeld2 => ?_)
      clear hK K hHeld
      have hHeld := hHeld2
      clear hHeld2
      simp only [List.setIfInBounds_toArray, List.set_cons_succ, List.set_cons_zero]
      refine wpAnyH_ready (rs := [3]) (by kernel_rfl) (by simp) ?_
      refine AllReadyH.cons rfl (fun K hK => ?_) AllReadyH.nil
      go_simp
      refine (clone_any x _ hz.1).mono ?_
      rintro e w3 ⟨rfl, b3⟩
      have BM3 := BM102.next b3 BM102.lt
      refine hK.out _ _ (hHeld.below b3) (fun hHeld2 => ?_)
      clear hK K hHeld
      have hHeld := hHeld2
      clear hHeld2
      simp only [List.setIfInBounds_toArray, List.set_cons_succ, List.set_cons_zero]
      refine wpAnyH_ready (rs := [6]) (by kernel_rfl) (by simp) ?_
      refine AllReadyH.cons rfl (fun K hK => ?_) AllReadyH.nil
      go_simp
      refine (clone_any y _ hz.2.1).mono ?_
      rintro e w4 ⟨rfl, b4⟩
      have BM4 := BM3.next b4 BM3.lt
      refine hK.out _ _ (hHeld.below b4) (fun hHeld2 => ?_)
      clear hK K hHeld
      have hHeld := hHeld2
      clear hHeld2
      simp only [List.setIfInBounds_toArray, List.set_cons_succ, List.set_cons_zero]
      refine wpAnyH_take (i := 7) (v := ?_) rfl (by kernel_rfl) (by kernel_rfl) (by kernel_rfl) (fun _ _ _ h => h) (Or.inl ⟨by rfl, ?_⟩) (by assumption) ?_
      rotate_left
      · intro w hSw; (try dsimp only at hSw); obtain ⟨hs0, hs1, hs2⟩ := hSw.x; go_simp; try with_reducible rfl
      simp only [Act.put, List.getElem_toArray, List.getElem_cons_succ, List.getElem_cons_zero, List.setIfInBounds_toArray, List.set_cons_succ, List.set_cons_zero]
      refine wpAnyH_take (i := 8) (v := ?_) rfl (by kernel_rfl) (by kernel_rfl) (by kernel_rfl) (fun _ _ _ h => h) (Or.inl ⟨by rfl, ?_⟩) (by assumption) ?_
      rotate_left
      · intro w hSw; (try dsimp only at hSw); obtain ⟨hs0, hs1, hs2⟩ := hSw.x; go_simp; try with_reducible rfl
      simp only [Act.put, List.getElem_toArray, List.getElem_cons_succ, List.getElem_cons_zero, List.setIfInBounds_toArray, List.set_cons_succ, List.set_cons_zero]
      refine wpAnyH_ready (rs := [10]) (by kernel_rfl) (by simp) ?_
      refine AllReadyH.cons rfl (fun K hK => ?_) AllReadyH.nil
      have BMZ := Bx.put4 BM4 (.bool false) (.string x) (.string y) (.string ⟨#[]⟩)
      obtain ⟨_, m0, m1, m2, m3, mz⟩ := BM4
      go_simp
      refine hK.out _ _ ((((hHeld.setM hM0).setM hM0).setM hM0).setM hM0) (fun hHeld2 => ?_)
      clear hK K hHeld
      have hHeld := hHeld2
      clear hHeld2
      simp only [List.setIfInBounds_toArray, List.set_cons_succ, List.set_cons_zero]
      refine wpAnyH_done (by kernel_rfl) ?_ _
      have hMM : w.heap.size + 2 ≤ W0.heap.size := hM0
      obtain ⟨MM, hMMe⟩ : ∃ M, W0.heap.size = M := ⟨_, rfl⟩
      obtain ⟨W5, hW5⟩ : ∃ W, ((((w4.setCell ⟨W0.heap.size, 0, none⟩ (.bool false)).setCell ⟨W0.heap.size, 1, none⟩ (.string x)).setCell ⟨W0.heap.size, 2, none⟩ (.string y)).setCell ⟨W0.heap.size, 3, none⟩ (.string ⟨#[]⟩)) = W := ⟨_, rfl⟩
      rw [hW5] at hHeld BMZ ⊢
      rw [hMMe] at hMM BMZ ⊢
      clear hW5 hMMe hM0
      obtain ⟨x0, x1, x2⟩ := hHeld.x
      go_wp2_with fail
      refine (clone_any z _ hz.2.2).mono ?_
      rintro e w9 ⟨rfl, b9⟩
      have hH9 := hHeld.below b9
      have BM9 := BMZ.next b9 BMZ.lt
      have BMs := BM9.set3 (.string z)
      have hHs := hH9.setM (k := 3) (v := .string z) hMM
      obtain ⟨W6, hW6⟩ : ∃ W, w9.setCell ⟨MM, 3, none⟩ (.string z) = W := ⟨_, rfl⟩
      rw [hW6] at BMs hHs
      obtain ⟨_, n0, n1, n2, n3, nz⟩ := BMs
      obtain ⟨_, q0, q1, q2, q3, qz⟩ := BM9
      obtain ⟨_, r0, r1, r2, r3, rz⟩ := hHs.r
      have HB := hide hHs.b
      clear hHeld hHs hH9 BMZ
      go_wp2
      refine bodyPost_ret (v := .agg #[.bool false, .string x, .string y, .string z]) (by simp [results, Try.results96, go_sem, r0, r1, r2, r3]) rfl ⟨rfl, ?_⟩
      exact (((HB.out.setCell (by simp) _).setCell (by simp) _).setCell (by simp) _).setCell (by simp) _
  · show Calls Try.prog 96 _ w fun e w' => e = .returned (.agg #[.bool true, .string x, .string y, .string ⟨#[]⟩]) ∧ Below w.heap.size w w'
    go_enter Try.func96, Try.ntmps96
    go_wp2_with fail
    try rw [hW0]
    clear hW0
    refine wp_region_held_drew (S := (fun W => NO w x y z W)) (by kernel_rfl) (by exact HNO.out.below (below_drewP (Below.refl _ _))) (fun hHeld => ?_)
    simp only [List.size_toArray, List.length_cons, List.length_nil, Nat.reduceAdd, Array.replicate_succ, Array.replicate_zero, List.push_toArray, List.nil_append, List.cons_append]
    refine wpAnyH_take (i := 0) (v := ?_) rfl (by kernel_rfl) (by kernel_rfl) (by kernel_rfl) (fun _ _ _ h => h) (Or.inl ⟨by rfl, ?_⟩) (by assumption) ?_
    rotate_left
    · intro w hSw; (try dsimp only at hSw); obtain ⟨hs0, hs1, hs2⟩ := hSw.x; go_simp; try with_reducible rfl
    simp only [Act.put, List.getElem_toArray, List.getElem_cons_zero, List.setIfInBounds_toArray, List.set_cons_zero]
    refine wpAnyH_take (i := 1) (v := ?_) rfl (by kernel_rfl) (by kernel_rfl) (by kernel_rfl) (fun _ _ _ h => h) (Or.inl ⟨by rfl, ?_⟩) (by assumption) ?_
    rotate_left
    · intro w hSw; (try dsimp only at hSw); obtain ⟨hs0, hs1, hs2⟩ := hSw.x; go_simp; try with_reducible rfl
    simp only [Act.put, List.getElem_toArray, List.getElem_cons_succ, List.getElem_cons_zero, List.setIfInBounds_toArray, List.set_cons_succ, List.set_cons_zero]
    refine wpAnyH_take (i := 2) (v := ?_) rfl (by kernel_rfl) (by kernel_rfl) (by kernel_rfl) (fun _ _ _ h => h) (Or.inl ⟨by rfl, ?_⟩) (by assumption) ?_
    rotate_left
    · intro w hSw; (try dsimp only at hSw); obtain ⟨hs0, hs1, hs2⟩ := hSw.x; go_simp; try with_reducible rfl
    simp only [Act.put, List.getElem_toArray, List.getElem_cons_succ, List.getElem_cons_zero, List.setIfInBounds_toArray, List.set_cons_succ, List.set_cons_zero]
    refine wpAnyH_take (i := 4) (v := ?_) rfl (by kernel_rfl) (by kernel_rfl) (by kernel_rfl) (fun _ _ _ h => h) (Or.inl ⟨by rfl, ?_⟩) (by assumption) ?_
    rotate_left
    · intro w hSw; (try dsimp only at hSw); obtain ⟨hs0, hs1, hs2⟩ := hSw.x; go_simp; try with_reducible rfl
    simp only [Act.put, List.getElem_toArray, List.getElem_cons_succ, List.getElem_cons_zero, List.setIfInBounds_toArray, List.set_cons_succ, List.set_cons_zero]
    refine wpAnyH_take (i := 5) (v := ?_) rfl (by kernel_rfl) (by kernel_rfl) (by kernel_rfl) (fun _ _ _ h => h) (Or.inl ⟨by rfl, ?_⟩) (by assumption) ?_
    rotate_left
    · intro w hSw; (try dsimp only at hSw); obtain ⟨hs0, hs1, hs2⟩ := hSw.x; go_simp; try with_reducible rfl
    simp only [Act.put, List.getElem_toArray, List.getElem_cons_succ, List.getElem_cons_zero, List.setIfInBounds_toArray, List.set_cons_succ, List.set_cons_zero]
    refine wpAnyH_ready (rs := [3, 9]) (by kernel_rfl) (by simp) ?_
    refine AllReadyH.cons rfl (fun K hK => ?_) (AllReadyH.cons rfl (fun K hK => ?_) AllReadyH.nil)
    · go_simp
      refine (clone_any x _ hz.1).mono ?_
      rintro e w3 ⟨rfl, b3⟩
      refine hK.out _ _ (hHeld.below b3) (fun hHeld2 => ?_)
      clear hK K hHeld
      have hHeld := hHeld2
      clear hHeld2
      simp only [List.setIfInBounds_toArray, List.set_cons_succ, List.set_cons_zero]
      refine wpAnyH_ready (rs := [6, 9]) (by kernel_rfl) (by simp) ?_
      refine AllReadyH.cons rfl (fun K hK => ?_) (AllReadyH.cons rfl (fun K hK => ?_) AllReadyH.nil)
      · go_simp
        refine (clone_any y _ hz.2.1).mono ?_
        rintro e w4 ⟨rfl, b4⟩
        refine hK.out _ _ (hHeld.below b4) (fun hHeld2 => ?_)
        clear hK K hHeld
        have hHeld := hHeld2
        clear hHeld2
        simp only [List.setIfInBounds_toArray, List.set_cons_succ, List.set_cons_zero]
        refine wpAnyH_take (i := 7) (v := ?_) rfl (by kernel_rfl) (by kernel_rfl) (by kernel_rfl) (fun _ _ _ h => h) (Or.inl ⟨by rfl, ?_⟩) (by assumption) ?_
        rotate_left
        · intro w hSw; (try dsimp only at hSw); obtain ⟨hs0, hs1, hs2⟩ := hSw.x; go_simp; try with_reducible rfl
        simp only [Act.put, List.getElem_toArray, List.getElem_cons_succ, List.getElem_cons_zero, List.setIfInBounds_toArray, List.set_cons_succ, List.set_cons_zero]
        refine wpAnyH_take (i := 8) (v := ?_) rfl (by kernel_rfl) (by kernel_rfl) (by kernel_rfl) (fun _ _ _ h => h) (Or.inl ⟨by rfl, ?_⟩) (by assumption) ?_
        rotate_left
        · intro w hSw; (try dsimp only at hSw); obtain ⟨hs0, hs1, hs2⟩ := hSw.x; go_simp; try with_reducible rfl
        simp only [Act.put, List.getElem_toArray, List.getElem_cons_succ, List.getElem_cons_zero, List.setIfInBounds_toArray, List.set_cons_succ, List.set_cons_zero]
        refine wpAnyH_ready (rs := [9]) (by kernel_rfl) (by simp) ?_
        refine AllReadyH.cons rfl (fun K hK => ?_) AllReadyH.nil
        go_simp
        have BM104 : Bx (w4.alloc (Obj.cells #[Value.bool false, Value.string { data := #[] }, Value.string { data := #[] }, Value.string { data := #[] }] 93)) w4.heap.size (.bool false) (.string ⟨#[]⟩) (.string ⟨#[]⟩) (.string ⟨#[]⟩) := Bx.made w4 (.bool false) (.string ⟨#[]⟩) (.string ⟨#[]⟩) (.string ⟨#[]⟩) 93
        have hM0 : w.heap.size + 2 ≤ w4.heap.size := hHeld.sz
        have hPrev := hHeld
        refine hK.out _ _ (hHeld.alloc _) (fun hHeld2 => ?_)
        clear hK K hHeld
        have hHeld := hHeld2
        clear hHeld2
        simp only [List.setIfInBounds_toArray, List.set_cons_succ, List.set_cons_zero]
        refine wpAnyH_ready (rs := [10]) (by kernel_rfl) (by simp) ?_
        refine AllReadyH.cons rfl (fun K hK => ?_) AllReadyH.nil
        have BMZ : Bx (w4.alloc (Obj.cells #[.bool true, .string x, .string y, .string ⟨#[]⟩] 93)) w4.heap.size (.bool true) (.string x) (.string y) (.string ⟨#[]⟩) := Bx.made w4 _ _ _ _ 93
        go_simp
        refine hK.out _ _ (hPrev.alloc _) (fun hHeld2 => ?_)
        clear hPrev
        clear hK K hHeld
        have hHeld := hHeld2
        clear hHeld2
        simp only [List.setIfInBounds_toArray, List.set_cons_succ, List.set_cons_zero]
        refine wpAnyH_done (by kernel_rfl) ?_ _
        have hMM : w.heap.size + 2 ≤ w4.heap.size := hM0
        obtain ⟨MM, hMMe⟩ : ∃ M, w4.heap.size = M := ⟨_, rfl⟩
        obtain ⟨W5, hW5⟩ : ∃ W, (w4.alloc (Obj.cells #[.bool true, .string x, .string y, .string ⟨#[]⟩] 93)) = W := ⟨_, rfl⟩
        rw [hW5] at hHeld BMZ ⊢
        rw [hMMe] at hMM BMZ ⊢
        clear hW5 hMMe hM0
        obtain ⟨_, n0, n1, n2, n3, nz⟩ := BMZ
        obtain ⟨_, r0, r1, r2, r3, rz⟩ := hHeld.r
        have HB := hide hHeld.b
        clear hHeld
        go_wp2
        refine bodyPost_ret (v := .agg #[.bool true, .string x, .string y, .string ⟨#[]⟩]) (by simp [results, Try.results96, go_sem, r0, r1, r2, r3]) rfl ⟨rfl, ?_⟩
        exact (((HB.out.setCell (by simp) _).setCell (by simp) _).setCell (by simp) _).setCell (by simp) _
      · go_simp
        have BM103 : Bx (w3.alloc (Obj.cells #[Value.bool false, Value.string { data := #[] }, Value.string { data := #[] }, Value.string { data := #[] }] 93)) w3.heap.size (.bool false) (.string ⟨#[]⟩) (.string ⟨#[]⟩) (.string ⟨#[]⟩) := Bx.made w3 (.bool false) (.string ⟨#[]⟩) (.string ⟨#[]⟩) (.string ⟨#[]⟩) 93
        have hM0 : w.heap.size + 2 ≤ w3.heap.size := hHeld.sz
        have hPrev := hHeld
        refine hK.out _ _ (hHeld.alloc _) (fun hHeld2 => ?_)
        clear hK K hHeld
        have hHeld := hHeld2
        clear hHeld2
        simp only [List.setIfInBounds_toArray, List.set_cons_succ, List.set_cons_zero]
        refine wpAnyH_ready (rs := [6]) (by kernel_rfl) (by simp) ?_
        refine AllReadyH.cons rfl (fun K hK => ?_) AllReadyH.nil
        go_simp
        refine (clone_any y _ hz.2.1).mono ?_
        rintro e w4 ⟨rfl, b4⟩
        have BM4 := BM103.next b4 BM103.lt
        refine hK.out _ _ (hHeld.below b4) (fun hHeld2 => ?_)
        clear hK K hHeld
        have hHeld := hHeld2
        clear hHeld2
        simp only [List.setIfInBounds_toArray, List.set_cons_succ, List.set_cons_zero]
        refine wpAnyH_take (i := 7) (v := ?_) rfl (by kernel_rfl) (by kernel_rfl) (by kernel_rfl) (fun _ _ _ h => h) (Or.inl ⟨by rfl, ?_⟩) (by assumption) ?_
        rotate_left
        · intro w hSw; (try dsimp only at hSw); obtain ⟨hs0, hs1, hs2⟩ := hSw.x; go_simp; try with_reducible rfl
        simp only [Act.put, List.getElem_toArray, List.getElem_cons_succ, List.getElem_cons_zero, List.setIfInBounds_toArray, List.set_cons_succ, List.set_cons_zero]
        refine wpAnyH_take (i := 8) (v := ?_) rfl (by kernel_rfl) (by kernel_rfl) (by kernel_rfl) (fun _ _ _ h => h) (Or.inl ⟨by rfl, ?_⟩) (by assumption) ?_
        rotate_left
        · intro w hSw; (try dsimp only at hSw); obtain ⟨hs0, hs1, hs2⟩ := hSw.x; go_simp; try with_reducible rfl
        simp only [Act.put, List.getElem_toArray, List.getElem_cons_succ, List.getElem_cons_zero, List.setIfInBounds_toArray, List.set_cons_succ, List.set_cons_zero]
        refine wpAnyH_ready (rs := [10]) (by kernel_rfl) (by simp) ?_
        refine AllReadyH.cons rfl (fun K hK => ?_) AllReadyH.nil
        have BMZ := Bx.put4 BM4 (.bool true) (.string x) (.string y) (.string ⟨#[]⟩)
        obtain ⟨_, m0, m1, m2, m3, mz⟩ := BM4
        go_simp
        refine hK.out _ _ ((((hHeld.setM hM0).setM hM0).setM hM0).setM hM0) (fun hHeld2 => ?_)
        clear hK K hHeld
        have hHeld := hHeld2
        clear hHeld2
        simp only [List.setIfInBounds_toArray, List.set_cons_succ, List.set_cons_zero]
        refine wpAnyH_done (by kernel_rfl) ?_ _
        have hMM : w.heap.size + 2 ≤ w3.heap.size := hM0
        obtain ⟨MM, hMMe⟩ : ∃ M, w3.heap.size = M := ⟨_, rfl⟩
        obtain ⟨W5, hW5⟩ : ∃ W, ((((w4.setCell ⟨w3.heap.size, 0, none⟩ (.bool true)).setCell ⟨w3.heap.size, 1, none⟩ (.string x)).setCell ⟨w3.heap.size, 2, none⟩ (.string y)).setCell ⟨w3.heap.size, 3, none⟩ (.string ⟨#[]⟩)) = W := ⟨_, rfl⟩
        rw [hW5] at hHeld BMZ ⊢
        rw [hMMe] at hMM BMZ ⊢
        clear hW5 hMMe hM0
        obtain ⟨_, n0, n1, n2, n3, nz⟩ := BMZ
        obtain ⟨_, r0, r1, r2, r3, rz⟩ := hHeld.r
        have HB := hide hHeld.b
        clear hHeld
        go_wp2
        refine bodyPost_ret (v := .agg #[.bool true, .string x, .string y, .string ⟨#[]⟩]) (by simp [results, Try.results96, go_sem, r0, r1, r2, r3]) rfl ⟨rfl, ?_⟩
        exact (((HB.out.setCell (by simp) _).setCell (by simp) _).setCell (by simp) _).setCell (by simp) _
    · go_simp
      have BM102 : Bx (W0.drew.alloc (Obj.cells #[Value.bool false, Value.string { data := #[] }, Value.string { data := #[] }, Value.string { data := #[] }] 93)) W0.heap.size (.bool false) (.string ⟨#[]⟩) (.string ⟨#[]⟩) (.string ⟨#[]⟩) := Bx.made W0.drew (.bool false) (.string ⟨#[]⟩) (.string ⟨#[]⟩) (.string ⟨#[]⟩) 93
      have hM0 : w.heap.size + 2 ≤ W0.heap.size := hHeld.sz
      have hPrev := hHeld
      refine hK.out _ _ (hHeld.alloc _) (fun hHeld2 => ?_)
      clear hK K hHeld
      have hHeld := hHeld2
      clear hHeld2
      simp only [List.setIfInBounds_toArray, List.set_cons_succ, List.set_cons_zero]
      refine wpAnyH_ready (rs := [3]) (by kernel_rfl) (by simp) ?_
      refine AllReadyH.cons rfl (fun K hK => ?_) AllReadyH.nil
      go_simp
      refine (clone_any x _ hz.1).mono ?_
      rintro e w3 ⟨rfl, b3⟩
      have BM3 := BM102.next b3 BM102.lt
      refine hK.out _ _ (hHeld.below b3) (fun hHeld2 => ?_)
      clear hK K hHeld
      have hHeld := hHeld2
      clear hHeld2
      simp only [List.setIfInBounds_toArray, List.set_cons_succ, List.set_cons_zero]
      refine wpAnyH_ready (rs := [6]) (by kernel_rfl) (by simp) ?_
      refine AllReadyH.cons rfl (fun K hK => ?_) AllReadyH.nil
      go_simp
      refine (clone_any y _ hz.2.1).mono ?_
      rintro e w4 ⟨rfl, b4⟩
      have BM4 := BM3.next b4 BM3.lt
      refine hK.out _ _ (hHeld.below b4) (fun hHeld2 => ?_)
      clear hK K hHeld
      have hHeld := hHeld2
      clear hHeld2
      simp only [List.setIfInBounds_toArray, List.set_cons_succ, List.set_cons_zero]
      refine wpAnyH_take (i := 7) (v := ?_) rfl (by kernel_rfl) (by kernel_rfl) (by kernel_rfl) (fun _ _ _ h => h) (Or.inl ⟨by rfl, ?_⟩) (by assumption) ?_
      rotate_left
      · intro w hSw; (try dsimp only at hSw); obtain ⟨hs0, hs1, hs2⟩ := hSw.x; go_simp; try with_reducible rfl
      simp only [Act.put, List.getElem_toArray, List.getElem_cons_succ, List.getElem_cons_zero, List.setIfInBounds_toArray, List.set_cons_succ, List.set_cons_zero]
      refine wpAnyH_take (i := 8) (v := ?_) rfl (by kernel_rfl) (by kernel_rfl) (by kernel_rfl) (fun _ _ _ h => h) (Or.inl ⟨by rfl, ?_⟩) (by assumption) ?_
      rotate_left
      · intro w hSw; (try dsimp only at hSw); obtain ⟨hs0, hs1, hs2⟩ := hSw.x; go_simp; try with_reducible rfl
      simp only [Act.put, List.getElem_toArray, List.getElem_cons_succ, List.getElem_cons_zero, List.setIfInBounds_toArray, List.set_cons_succ, List.set_cons_zero]
      refine wpAnyH_ready (rs := [10]) (by kernel_rfl) (by simp) ?_
      refine AllReadyH.cons rfl (fun K hK => ?_) AllReadyH.nil
      have BMZ := Bx.put4 BM4 (.bool true) (.string x) (.string y) (.string ⟨#[]⟩)
      obtain ⟨_, m0, m1, m2, m3, mz⟩ := BM4
      go_simp
      refine hK.out _ _ ((((hHeld.setM hM0).setM hM0).setM hM0).setM hM0) (fun hHeld2 => ?_)
      clear hK K hHeld
      have hHeld := hHeld2
      clear hHeld2
      simp only [List.setIfInBounds_toArray, List.set_cons_succ, List.set_cons_zero]
      refine wpAnyH_done (by kernel_rfl) ?_ _
      have hMM : w.heap.size + 2 ≤ W0.heap.size := hM0
      obtain ⟨MM, hMMe⟩ : ∃ M, W0.heap.size = M := ⟨_, rfl⟩
      obtain ⟨W5, hW5⟩ : ∃ W, ((((w4.setCell ⟨W0.heap.size, 0, none⟩ (.bool true)).setCell ⟨W0.heap.size, 1, none⟩ (.string x)).setCell ⟨W0.heap.size, 2, none⟩ (.string y)).setCell ⟨W0.heap.size, 3, none⟩ (.string ⟨#[]⟩)) = W := ⟨_, rfl⟩
      rw [hW5] at hHeld BMZ ⊢
      rw [hMMe] at hMM BMZ ⊢
      clear hW5 hMMe hM0
      obtain ⟨_, n0, n1, n2, n3, nz⟩ := BMZ
      obtain ⟨_, r0, r1, r2, r3, rz⟩ := hHeld.r
      have HB := hide hHeld.b
      clear hHeld
      go_wp2
      refine bodyPost_ret (v := .agg #[.bool true, .string x, .string y, .string ⟨#[]⟩]) (by simp [results, Try.results96, go_sem, r0, r1, r2, r3]) rfl ⟨rfl, ?_⟩
      exact (((HB.out.setCell (by simp) _).setCell (by simp) _).setCell (by simp) _).setCell (by simp) _
end Go.Proofs.Ytclnpfpaabmkcab
