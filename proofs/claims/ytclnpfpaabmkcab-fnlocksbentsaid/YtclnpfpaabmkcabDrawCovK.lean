/-
  What FnLocksBent draws: spec.DrawCovers.
-/
import Derived.Test.YtclnpfpaabmkcabDrawClashK
import Derived.Test.YtclnpfpaabmkcabAppendSS
namespace Go.Proofs.Ytclnpfpaabmkcab
open Go.RowKit M
set_option linter.unusedVariables false

theorem owns_keepS {w w' : World} {B g n c size : Nat} {e : TypeId} {xs : List Value} (h : w.ownsRow B e size (.slice (some ⟨g, 0, none⟩) n c) n xs) (hh : w'.heap[g]? = w.heap[g]?) : w'.ownsRow B e size (.slice (some ⟨g, 0, none⟩) n c) n xs := by
  refine ⟨h.1, ?_⟩
  rcases h.2 with ⟨e, _⟩ | ⟨g', cap, cur, e, r1, r2, r3⟩
  · cases e
  · cases e
    exact .inr ⟨g, c, cur, rfl, r1, hh.trans r2, r3⟩
def CovK (e : Ending) (w' : World) : Prop := ∃ (x : Lk) (p m k : Nat) (ss : List ByteArray) (q n j : Nat), e = .returned (.tuple #[.agg #[.int .i64 x.tk, .slice (some ⟨p, 0, none⟩) m k, .bool x.de, .bool x.sh, .int .i64 x.un], .slice (some ⟨q, 0, none⟩) n j]) ∧ OneK w' x p m k ∧ Few 9 ss ∧ n = ss.length ∧ RowS w' q ss ∧ n ≤ j ∧ j ≤ maxLen

set_option maxRecDepth 100000 in
set_option maxHeartbeats 8000000 in
theorem drawCovers_any {w : World} {B : Nat} {a : Option Addr} {len : Nat} {zs : List Int} (h : CodeIn w B a len zs) (cap : Nat) :
    Calls Try.prog 7 #[.slice a len cap] w fun e w' => CovK e w' ∧ Below w.heap.size w w' := by
  have b0 := (Below.refl w.heap.size w).alloc (Nat.le_refl _) (Obj.cells #[.int .i64 0, .slice none 0 0, .bool false, .bool false, .int .i64 0] 26)
  have HC := hide (h.below (b0.mono h.hB))
  have K0 := hide b0
  have A0 := hide (BoxV.made w [.int .i64 0, .slice none 0 0, .bool false, .bool false, .int .i64 0] 26)
  clear h b0
  go_enter Try.func7, Try.ntmps7
  go_wp2_with fail
  refine (newDX HC.out cap).mono ?_
  rintro e w1 ⟨rfl, hd1, b1⟩
  obtain ⟨N, hN⟩ : ∃ n, (w.alloc (Obj.cells #[.int .i64 0, .slice none 0 0, .bool false, .bool false, .int .i64 0] 26)).heap.size = n := ⟨_, rfl⟩
  have hNw : w.heap.size < N := by rw [← hN]; simp
  rw [hN] at hd1 ⊢
  have hN1 : N < w1.heap.size := hd1.lt
  have D1 := hide hd1
  have K1 := hide (K0.out.trans (b1.mono K0.out.size))
  have A1 := hide (A0.out.next b1)
  clear hd1 b1 K0 A0 HC hN
  go_wp2_with fail
  refine (l13Lock_any D1.out).mono ?_
  rintro e w2 ⟨⟨x, p, m, k, x1, x2, x3, hm, rfl, ho⟩, dx2, g2⟩
  obtain ⟨q1, q2, q3, q4⟩ := rowS_of ho hm
  subst hm
  have hx3 : x.pa.length ≤ 3 := x3.1
  have hz12 := g2.size
  have bA := (Below.refl w2.heap.size w2).alloc (Nat.le_refl _) (Obj.cells #[.int .i64 x.tk, .slice (some ⟨p, 0, none⟩) x.pa.length k, .bool x.de, .bool x.sh, .int .i64 x.un] 26)
  have HX2 := hide (show OneK (w2.alloc (Obj.cells #[.int .i64 x.tk, .slice (some ⟨p, 0, none⟩) x.pa.length k, .bool x.de, .bool x.sh, .int .i64 x.un] 26)) x p x.pa.length k from (show OneK w2 x p x.pa.length k from ⟨x1, x2, x3, rfl, q1, q2, q3⟩).next bA)
  have K2 := hide ((K1.out.trans (grown_below g2 (by omega) (by omega) : Below w.heap.size w1 w2)).trans (bA.mono (by omega)))
  have A2 := hide ((A1.out.grown g2 (by omega)).next bA)
  have M2 := hide (BoxV.made w2 [.int .i64 x.tk, .slice (some ⟨p, 0, none⟩) x.pa.length k, .bool x.de, .bool x.sh, .int .i64 x.un] 26)
  have D2 := hide (dx2.below bA)
  have hpN : N < p := by omega
  have hp2 : p < w2.heap.size := q1.1
  obtain ⟨M, hM⟩ : ∃ n, w2.heap.size = n := ⟨_, rfl⟩
  have hM1 : w2.heap.size ≤ M := Nat.le_of_eq hM
  have hM2 : M ≤ w2.heap.size := Nat.le_of_eq hM.symm
  have HM := hide hM
  have hz2 : (w2.alloc (Obj.cells #[.int .i64 x.tk, .slice (some ⟨p, 0, none⟩) x.pa.length k, .bool x.de, .bool x.sh, .int .i64 x.un] 26)).heap.size = w2.heap.size + 1 := by simp
  clear x1 x2 x3 q1 q2 q3 ho dx2 g2 D1 K1 A1 bA hM
  rw [HM.out] at M2
  go_wp2_with fail
  rw [HM.out]
  obtain ⟨w3, hw3⟩ : ∃ X, w2.alloc (Obj.cells #[.int .i64 x.tk, .slice (some ⟨p, 0, none⟩) x.pa.length k, .bool x.de, .bool x.sh, .int .i64 x.un] 26) = X := ⟨_, rfl⟩
  rw [hw3] at K2 A2 M2 D2 HX2 hz2 ⊢
  clear hw3
  refine (l1OnceQ D2.out 2 (by decide) (by decide)).mono ?_
  rintro e w4 ⟨⟨bb, rfl⟩, dx4, g4⟩
  have hz34 := g4.size
  have K3 := hide (K2.out.trans (grown_below g4 (by omega) (by omega) : Below w.heap.size w3 w4))
  have A3 := hide (A2.out.grown g4 (by omega))
  have M3 := hide (M2.out.grown g4 (by omega))
  have HX3 := hide (HX2.out.keepG g4 (by omega))
  have D3 := hide dx4
  have bD : Below w4.heap.size w4 w4.drew := below_drewG (Below.refl _ _)
  have K4 := hide (K3.out.trans (bD.mono (by omega)))
  have A4 := hide (A3.out.next bD)
  have M4 := hide (M3.out.next bD)
  have HX4 := hide (HX3.out.next bD)
  have D4 := hide (D3.out.below bD)
  have hzd : w4.drew.heap.size = w4.heap.size := rfl
  clear g4 dx4 K2 A2 M2 HX2 D2 bD K3 A3 M3 HX3 D3
  have flat : ∀ W : World, BoxV W M [.int .i64 x.tk, .slice (some ⟨p, 0, none⟩) x.pa.length k, .bool x.de, .bool x.sh, .int .i64 x.un] → (W.cell? ⟨M, 0, none⟩ = some (.int .i64 x.tk) ∧ W.cell? ⟨M, 1, none⟩ = some (.slice (some ⟨p, 0, none⟩) x.pa.length k) ∧ W.cell? ⟨M, 2, none⟩ = some (.bool x.de) ∧ W.cell? ⟨M, 3, none⟩ = some (.bool x.sh) ∧ W.cell? ⟨M, 4, none⟩ = some (.int .i64 x.un)) := fun W X => ⟨(X.2 0 _ rfl).1, (X.2 1 _ rfl).1, (X.2 2 _ rfl).1, (X.2 3 _ rfl).1, (X.2 4 _ rfl).1⟩
  cases bb
  · go_wp2_with fail
    refine wp_region_held_drew (S := (fun W => W.cell? ⟨M, 0, none⟩ = some (.int .i64 x.tk) ∧ W.cell? ⟨M, 1, none⟩ = some (.slice (some ⟨p, 0, none⟩) x.pa.length k) ∧ W.cell? ⟨M, 2, none⟩ = some (.bool x.de) ∧ W.cell? ⟨M, 3, none⟩ = some (.bool x.sh) ∧ W.cell? ⟨M, 4, none⟩ = some (.int .i64 x.un))) (by kernel_rfl) (flat _ M4.out) (fun hHeld => ?_)
    clear hHeld
    obtain ⟨wd, hwd⟩ : ∃ X, w4.drew = X := ⟨_, rfl⟩
    rw [hwd] at K4 A4 M4 D4 HX4 hzd ⊢
    clear hwd
    have hHeld : (fun W : World => W.cell? ⟨M, 0, none⟩ = some (.int .i64 x.tk) ∧ W.cell? ⟨M, 1, none⟩ = some (.slice (some ⟨p, 0, none⟩) x.pa.length k) ∧ W.cell? ⟨M, 2, none⟩ = some (.bool x.de) ∧ W.cell? ⟨M, 3, none⟩ = some (.bool x.sh) ∧ W.cell? ⟨M, 4, none⟩ = some (.int .i64 x.un)) wd := flat _ M4.out
    simp only [List.size_toArray, List.length_cons, List.length_nil, Nat.reduceAdd, Array.replicate_succ, Array.replicate_zero, List.push_toArray, List.nil_append, List.cons_append]
    refine wpAnyH_take (i := 0) (v := ?_) rfl (by kernel_rfl) (by kernel_rfl) (by kernel_rfl) (fun _ _ _ h => h) (Or.inl ⟨by rfl, ?_⟩) (by assumption) ?_
    rotate_left
    · intro w hSw; (try dsimp only at hSw); go_simp; try with_reducible rfl
    simp only [Act.put, List.getElem_toArray, List.getElem_cons_zero, List.setIfInBounds_toArray, List.set_cons_zero]
    refine wpAnyH_take (i := 1) (v := ?_) rfl (by kernel_rfl) (by kernel_rfl) (by kernel_rfl) (fun _ _ _ h => h) (Or.inl ⟨by rfl, ?_⟩) (by assumption) ?_
    rotate_left
    · intro w hSw; (try dsimp only at hSw); go_simp; try with_reducible rfl
    simp only [Act.put, List.getElem_toArray, List.getElem_cons_succ, List.getElem_cons_zero, List.setIfInBounds_toArray, List.set_cons_succ, List.set_cons_zero]
    refine wpAnyH_ready (rs := [2]) (by kernel_rfl) (by simp) ?_
    refine AllReadyH.cons rfl (fun K hK => ?_) AllReadyH.nil
    go_simp
    refine (l2Any_any D4.out).mono ?_
    rintro e w5 ⟨⟨ss, m8, q, c8, hf7, hn7, rfl, ho7⟩, dx7, t7⟩
    obtain ⟨r1, r2, r3, r4⟩ := rowS_of ho7 hn7
    have b7 : Below w.heap.size wd w5 := grown_below t7 (by omega) (by omega)
    have K8 := hide (K4.out.trans b7)
    have A8 := hide (A4.out.grown t7 (by omega))
    have M8 := hide (M4.out.grown t7 (by omega))
    have HX8 := hide (HX4.out.keepG t7 (by omega))
    have R8 := hide r1
    have HQ := hide (show Few 9 ss ∧ m8 = ss.length ∧ m8 ≤ c8 ∧ c8 ≤ maxLen from ⟨⟨by have := hf7.1; omega, hf7.2⟩, hn7, by omega, r3⟩)
    have q4 : w.heap.size < q := by omega
    clear hf7 hn7 ho7 dx7 t7 r1 r2 r3 r4 b7 K4 A4 M4 HX4 D4
    refine hK.out _ _ (flat _ M8.out) (fun hHeld2 => ?_)
    clear hK K hHeld
    have hHeld := hHeld2
    clear hHeld2
    simp only [List.setIfInBounds_toArray, List.set_cons_succ, List.set_cons_zero]
    refine wpAnyH_ready (rs := [3]) (by kernel_rfl) (by simp) ?_
    refine AllReadyH.cons rfl (fun K hK => ?_) AllReadyH.nil
    obtain ⟨d0, f0⟩ := A8.out.2 0 _ rfl
    obtain ⟨d1, f1⟩ := A8.out.2 1 _ rfl
    obtain ⟨d2, f2⟩ := A8.out.2 2 _ rfl
    obtain ⟨d3, f3⟩ := A8.out.2 3 _ rfl
    obtain ⟨d4, f4⟩ := A8.out.2 4 _ rfl
    go_simp
    clear d0 f0 d1 f1 d2 f2 d3 f3 d4 f4
    have A9 := hide (((((A8.out.set 0 (by simp) (.int .i64 x.tk)).set 1 (by simp) (.slice (some ⟨p, 0, none⟩) x.pa.length k)).set 2 (by simp) (.bool x.de)).set 3 (by simp) (.bool x.sh)).set 4 (by simp) (.int .i64 x.un))
    have K9 := hide (((((K8.out.setCell (p := ⟨w.heap.size, 0, none⟩) (Nat.le_refl _) (.int .i64 x.tk)).setCell (p := ⟨w.heap.size, 1, none⟩) (Nat.le_refl _) (.slice (some ⟨p, 0, none⟩) x.pa.length k)).setCell (p := ⟨w.heap.size, 2, none⟩) (Nat.le_refl _) (.bool x.de)).setCell (p := ⟨w.heap.size, 3, none⟩) (Nat.le_refl _) (.bool x.sh)).setCell (p := ⟨w.heap.size, 4, none⟩) (Nat.le_refl _) (.int .i64 x.un))
    have M9 := hide (((((M8.out.other ⟨w.heap.size, 0, none⟩ (.int .i64 x.tk) (by show w.heap.size ≠ M; omega)).other ⟨w.heap.size, 1, none⟩ (.slice (some ⟨p, 0, none⟩) x.pa.length k) (by show w.heap.size ≠ M; omega)).other ⟨w.heap.size, 2, none⟩ (.bool x.de) (by show w.heap.size ≠ M; omega)).other ⟨w.heap.size, 3, none⟩ (.bool x.sh) (by show w.heap.size ≠ M; omega)).other ⟨w.heap.size, 4, none⟩ (.int .i64 x.un) (by show w.heap.size ≠ M; omega))
    have HX9 := hide (((((HX8.out.keepSet ⟨w.heap.size, 0, none⟩ (.int .i64 x.tk) (by show w.heap.size ≠ p; omega)).keepSet ⟨w.heap.size, 1, none⟩ (.slice (some ⟨p, 0, none⟩) x.pa.length k) (by show w.heap.size ≠ p; omega)).keepSet ⟨w.heap.size, 2, none⟩ (.bool x.de) (by show w.heap.size ≠ p; omega)).keepSet ⟨w.heap.size, 3, none⟩ (.bool x.sh) (by show w.heap.size ≠ p; omega)).keepSet ⟨w.heap.size, 4, none⟩ (.int .i64 x.un) (by show w.heap.size ≠ p; omega))
    have R9 := hide (RowS.hp (RowS.hp (RowS.hp (RowS.hp (RowS.hp R8.out (by simp) (Below.heap_setCell _ ⟨w.heap.size, 0, none⟩ (.int .i64 x.tk) q (by show q ≠ w.heap.size; omega))) (by simp) (Below.heap_setCell _ ⟨w.heap.size, 1, none⟩ (.slice (some ⟨p, 0, none⟩) x.pa.length k) q (by show q ≠ w.heap.size; omega))) (by simp) (Below.heap_setCell _ ⟨w.heap.size, 2, none⟩ (.bool x.de) q (by show q ≠ w.heap.size; omega))) (by simp) (Below.heap_setCell _ ⟨w.heap.size, 3, none⟩ (.bool x.sh) q (by show q ≠ w.heap.size; omega))) (by simp) (Below.heap_setCell _ ⟨w.heap.size, 4, none⟩ (.int .i64 x.un) q (by show q ≠ w.heap.size; omega)))
    clear A8 K8 HX8 R8
    refine hK.out _ _ (flat _ M9.out) (fun hHeld2 => ?_)
    clear hK K hHeld
    have hHeld := hHeld2
    clear hHeld2
    simp only [List.setIfInBounds_toArray, List.set_cons_succ, List.set_cons_zero]
    refine wpAnyH_take (i := 4) (v := ?_) rfl (by kernel_rfl) (by kernel_rfl) (by kernel_rfl) (fun _ _ _ h => h) (Or.inl ⟨by rfl, ?_⟩) (by assumption) ?_
    rotate_left
    · intro w hSw; (try dsimp only at hSw); go_simp; try with_reducible rfl
    simp only [Act.put, List.getElem_toArray, List.getElem_cons_succ, List.getElem_cons_zero, List.setIfInBounds_toArray, List.set_cons_succ, List.set_cons_zero]
    refine wpAnyH_done (by kernel_rfl) ?_ _
    clear hHeld
    go_wp2
    have r0 := (A9.out.2 0 _ rfl).1
    have r1 := (A9.out.2 1 _ rfl).1
    have r2 := (A9.out.2 2 _ rfl).1
    have r3 := (A9.out.2 3 _ rfl).1
    have r4 := (A9.out.2 4 _ rfl).1
    refine bodyPost_ret (v := .tuple #[.agg #[.int .i64 x.tk, .slice (some ⟨p, 0, none⟩) x.pa.length k, .bool x.de, .bool x.sh, .int .i64 x.un], .slice (some ⟨q, 0, none⟩) m8 c8]) (by simp [results, Try.results7, go_sem, r0, r1, r2, r3, r4]) rfl ⟨⟨x, p, x.pa.length, k, ss, q, m8, c8, rfl, HX9.out, HQ.out.1, HQ.out.2.1, R9.out, HQ.out.2.2.1, HQ.out.2.2.2⟩, K9.out⟩
  · go_wp2_with fail
    refine wp_region_held_drew (S := (fun W => W.cell? ⟨M, 0, none⟩ = some (.int .i64 x.tk) ∧ W.cell? ⟨M, 1, none⟩ = some (.slice (some ⟨p, 0, none⟩) x.pa.length k) ∧ W.cell? ⟨M, 2, none⟩ = some (.bool x.de) ∧ W.cell? ⟨M, 3, none⟩ = some (.bool x.sh) ∧ W.cell? ⟨M, 4, none⟩ = some (.int .i64 x.un))) (by kernel_rfl) (flat _ M4.out) (fun hHeld => ?_)
    clear hHeld
    obtain ⟨wd, hwd⟩ : ∃ X, w4.drew = X := ⟨_, rfl⟩
    rw [hwd] at K4 A4 M4 D4 HX4 hzd ⊢
    clear hwd
    have hHeld : (fun W : World => W.cell? ⟨M, 0, none⟩ = some (.int .i64 x.tk) ∧ W.cell? ⟨M, 1, none⟩ = some (.slice (some ⟨p, 0, none⟩) x.pa.length k) ∧ W.cell? ⟨M, 2, none⟩ = some (.bool x.de) ∧ W.cell? ⟨M, 3, none⟩ = some (.bool x.sh) ∧ W.cell? ⟨M, 4, none⟩ = some (.int .i64 x.un)) wd := flat _ M4.out
    simp only [List.size_toArray, List.length_cons, List.length_nil, Nat.reduceAdd, Array.replicate_succ, Array.replicate_zero, List.push_toArray, List.nil_append, List.cons_append]
    refine wpAnyH_take (i := 0) (v := ?_) rfl (by kernel_rfl) (by kernel_rfl) (by kernel_rfl) (fun _ _ _ h => h) (Or.inl ⟨by rfl, ?_⟩) (by assumption) ?_
    rotate_left
    · intro w hSw; (try dsimp only at hSw); go_simp; try with_reducible rfl
    simp only [Act.put, List.getElem_toArray, List.getElem_cons_zero, List.setIfInBounds_toArray, List.set_cons_zero]
    refine wpAnyH_take (i := 2) (v := ?_) rfl (by kernel_rfl) (by kernel_rfl) (by kernel_rfl) (fun _ _ _ h => h) (Or.inl ⟨by rfl, ?_⟩) (by assumption) ?_
    rotate_left
    · intro w hSw; (try dsimp only at hSw); go_simp; try with_reducible rfl
    simp only [Act.put, List.getElem_toArray, List.getElem_cons_succ, List.getElem_cons_zero, List.setIfInBounds_toArray, List.set_cons_succ, List.set_cons_zero]
    refine wpAnyH_take (i := 3) (v := ?_) rfl (by kernel_rfl) (by kernel_rfl) (by kernel_rfl) (fun _ _ _ h => h) (Or.inl ⟨by rfl, ?_⟩) (by assumption) ?_
    rotate_left
    · intro w hSw; (try dsimp only at hSw); go_simp; try with_reducible rfl
    simp only [Act.put, List.getElem_toArray, List.getElem_cons_succ, List.getElem_cons_zero, List.setIfInBounds_toArray, List.set_cons_succ, List.set_cons_zero]
    refine wpAnyH_take (i := 5) (v := ?_) rfl (by kernel_rfl) (by kernel_rfl) (by kernel_rfl) (fun _ _ _ h => h) (Or.inl ⟨by rfl, ?_⟩) (by assumption) ?_
    rotate_left
    · intro w hSw; (try dsimp only at hSw); go_simp; try with_reducible rfl
    simp only [Act.put, List.getElem_toArray, List.getElem_cons_succ, List.getElem_cons_zero, List.setIfInBounds_toArray, List.set_cons_succ, List.set_cons_zero]
    refine wpAnyH_ready (rs := [1]) (by kernel_rfl) (by simp) ?_
    refine AllReadyH.cons rfl (fun K hK => ?_) AllReadyH.nil
    go_simp
    have bA := (Below.refl wd.heap.size wd).alloc (Nat.le_refl _) (Obj.cells #[] 9)
    have OA := hide (show (wd.alloc (Obj.cells #[] 9)).ownsRow wd.heap.size 9 1 (.slice (some ⟨wd.heap.size, 0, none⟩) 0 0) 0 (strCells []) from ⟨rfl, .inr ⟨wd.heap.size, 0, #[], rfl, Nat.le_refl _, heap_alloc_new wd _, Nat.le_refl _, Nat.zero_le _, rfl, rfl⟩⟩)
    have D5 := hide (D4.out.below bA)
    have K5 := hide (K4.out.trans (bA.mono (by have := K4.out.size; omega)))
    have A5 := hide (boxV_keep A4.out bA.size (bA.block _ (by omega)))
    have M5 := hide (boxV_keep M4.out bA.size (bA.block _ (by omega)))
    have HX5 := hide (HX4.out.keep bA.size (bA.block _ (by omega)))
    clear K4 A4 M4 HX4
    have hzA : wd.heap.size ≤ (wd.alloc (Obj.cells #[] 9)).heap.size := bA.size
    obtain ⟨w5, hw5⟩ : ∃ X, wd.alloc (Obj.cells #[] 9) = X := ⟨_, rfl⟩
    rw [hw5] at OA D5 K5 A5 M5 HX5 hzA ⊢
    clear hw5 bA D4
    refine hK.out _ _ (flat _ M5.out) (fun hHeld2 => ?_)
    clear hK K hHeld
    have hHeld := hHeld2
    clear hHeld2
    simp only [List.setIfInBounds_toArray, List.set_cons_succ, List.set_cons_zero]
    refine wpAnyH_ready (rs := [4]) (by kernel_rfl) (by simp) ?_
    refine AllReadyH.cons rfl (fun K hK => ?_) AllReadyH.nil
    refine step_append_strsO rfl _ _ rfl wd.heap.size wd.heap.size 0 0 [] (by first | rfl | (simp [Act.eval])) OA.out w5.heap.size (some ⟨p, 0, none⟩) x.pa x.pa.length k rfl (by first | rfl | (simp [Act.eval])) (HX5.out.2.2.2.2.1.strs' HX5.out.2.2.2.2.1.1) (fun e => by cases e) (by have := hx3; omega) hzA ?_
    intro g6 c6 m6 w6 hm6 O6' b6 t6
    have O6 := hide O6'
    have HM6 := hide hm6
    have D6 := hide (D5.out.other b6.size (fun i hi => b6.block i (by omega)))
    have K6 := hide (K5.out.trans (b6.mono (by have := K5.out.size; omega)))
    have A6 := hide (boxV_keep A5.out b6.size (b6.block _ (by omega)))
    have M6 := hide (boxV_keep M5.out b6.size (b6.block _ (by omega)))
    have HX6 := hide (HX5.out.keep b6.size (b6.block _ (by omega)))
    clear K5 A5 M5 HX5
    have z6 := b6.size
    clear O6' b6 t6 OA D5 hm6
    refine hK.out _ _ (flat _ M6.out) (fun hHeld2 => ?_)
    clear hK K hHeld
    have hHeld := hHeld2
    clear hHeld2
    simp only [List.setIfInBounds_toArray, List.set_cons_succ, List.set_cons_zero]
    refine wpAnyH_ready (rs := [6]) (by kernel_rfl) (by simp) ?_
    refine AllReadyH.cons rfl (fun K hK => ?_) AllReadyH.nil
    go_simp
    refine (l2Draw_any D6.out).mono ?_
    rintro e w7 ⟨⟨ss, n7, g7, c7, hf7, hn7, rfl, ho7⟩, dx7, t7⟩
    obtain ⟨r1, r2, r3, r4⟩ := rowS_of ho7 hn7
    have hg6 := World.ownsRow.lt O6.out g6 rfl
    have b7 : Below w.heap.size w6 w7 := grown_below t7 (by omega) (by omega)
    have O7 := hide (owns_keepS O6.out (t7.block g6 hg6.2 (fun e => by have := Option.some.inj e; omega)))
    have K7 := hide (K6.out.trans b7)
    have A7 := hide (A6.out.grown t7 (by omega))
    have M7 := hide (M6.out.grown t7 (by omega))
    have HX7 := hide (HX6.out.keepG t7 (by omega))
    have R7 := hide r1
    have HF7 := hide (And.intro hf7 (And.intro hn7 (And.intro r2 r3)))
    have z7 := t7.size
    clear hf7 hn7 ho7 dx7 t7 r1 r2 r3 r4 b7 K6 A6 M6 HX6 O6 D6 hg6
    refine hK.out _ _ (flat _ M7.out) (fun hHeld2 => ?_)
    clear hK K hHeld
    have hHeld := hHeld2
    clear hHeld2
    simp only [List.setIfInBounds_toArray, List.set_cons_succ, List.set_cons_zero]
    refine wpAnyH_ready (rs := [7]) (by kernel_rfl) (by simp) ?_
    refine AllReadyH.cons rfl (fun K hK => ?_) AllReadyH.nil
    refine step_append_strsO rfl _ _ rfl wd.heap.size g6 m6 c6 ([] ++ x.pa) (by first | rfl | (simp [Act.eval])) O7.out w7.heap.size (some ⟨g7, 0, none⟩) ss n7 c7 HF7.out.2.1 (by first | rfl | (simp [Act.eval])) (R7.out.strs' R7.out.1) (fun e => by cases e) (by have h1 := HM6.out; have h2 := HF7.out.1.1; have h3 := HF7.out.2.1; simp at h1; omega) (by omega) ?_
    intro q c8 m8 w8 hm8 O8 b8 t8
    obtain ⟨r1, r2, r3, r4⟩ := rowS_of O8 hm8
    have K8 := hide (K7.out.trans (b8.mono (by have := K7.out.size; omega)))
    have A8 := hide (boxV_keep A7.out b8.size (b8.block _ (by omega)))
    have M8 := hide (boxV_keep M7.out b8.size (b8.block _ (by omega)))
    have HX8 := hide (HX7.out.keep b8.size (b8.block _ (by omega)))
    clear K7 A7 M7 HX7
    have R8 := hide r1
    have HQ := hide (show Few 9 ([] ++ x.pa ++ ss) ∧ m8 = ([] ++ x.pa ++ ss).length ∧ m8 ≤ c8 ∧ c8 ≤ maxLen from ⟨⟨by have h2 := HF7.out.1.1; simp; omega, fun s hs => by
      simp only [List.nil_append, List.mem_append] at hs
      rcases hs with h | h
      · exact HX8.out.2.2.1.2 s h
      · exact HF7.out.1.2 s h⟩, hm8, by omega, r3⟩)
    have q4 : w.heap.size < q := by omega
    clear r1 r2 r3 r4 O8 b8 t8 hm8 O7 R7 HF7 HM6
    refine hK.out _ _ (flat _ M8.out) (fun hHeld2 => ?_)
    clear hK K hHeld
    have hHeld := hHeld2
    clear hHeld2
    simp only [List.setIfInBounds_toArray, List.set_cons_succ, List.set_cons_zero]
    refine wpAnyH_ready (rs := [8]) (by kernel_rfl) (by simp) ?_
    refine AllReadyH.cons rfl (fun K hK => ?_) AllReadyH.nil
    obtain ⟨d0, f0⟩ := A8.out.2 0 _ rfl
    obtain ⟨d1, f1⟩ := A8.out.2 1 _ rfl
    obtain ⟨d2, f2⟩ := A8.out.2 2 _ rfl
    obtain ⟨d3, f3⟩ := A8.out.2 3 _ rfl
    obtain ⟨d4, f4⟩ := A8.out.2 4 _ rfl
    go_simp
    clear d0 f0 d1 f1 d2 f2 d3 f3 d4 f4
    have A9 := hide (((((A8.out.set 0 (by simp) (.int .i64 x.tk)).set 1 (by simp) (.slice (some ⟨p, 0, none⟩) x.pa.length k)).set 2 (by simp) (.bool x.de)).set 3 (by simp) (.bool x.sh)).set 4 (by simp) (.int .i64 x.un))
    have K9 := hide (((((K8.out.setCell (p := ⟨w.heap.size, 0, none⟩) (Nat.le_refl _) (.int .i64 x.tk)).setCell (p := ⟨w.heap.size, 1, none⟩) (Nat.le_refl _) (.slice (some ⟨p, 0, none⟩) x.pa.length k)).setCell (p := ⟨w.heap.size, 2, none⟩) (Nat.le_refl _) (.bool x.de)).setCell (p := ⟨w.heap.size, 3, none⟩) (Nat.le_refl _) (.bool x.sh)).setCell (p := ⟨w.heap.size, 4, none⟩) (Nat.le_refl _) (.int .i64 x.un))
    have M9 := hide (((((M8.out.other ⟨w.heap.size, 0, none⟩ (.int .i64 x.tk) (by show w.heap.size ≠ M; omega)).other ⟨w.heap.size, 1, none⟩ (.slice (some ⟨p, 0, none⟩) x.pa.length k) (by show w.heap.size ≠ M; omega)).other ⟨w.heap.size, 2, none⟩ (.bool x.de) (by show w.heap.size ≠ M; omega)).other ⟨w.heap.size, 3, none⟩ (.bool x.sh) (by show w.heap.size ≠ M; omega)).other ⟨w.heap.size, 4, none⟩ (.int .i64 x.un) (by show w.heap.size ≠ M; omega))
    have HX9 := hide (((((HX8.out.keepSet ⟨w.heap.size, 0, none⟩ (.int .i64 x.tk) (by show w.heap.size ≠ p; omega)).keepSet ⟨w.heap.size, 1, none⟩ (.slice (some ⟨p, 0, none⟩) x.pa.length k) (by show w.heap.size ≠ p; omega)).keepSet ⟨w.heap.size, 2, none⟩ (.bool x.de) (by show w.heap.size ≠ p; omega)).keepSet ⟨w.heap.size, 3, none⟩ (.bool x.sh) (by show w.heap.size ≠ p; omega)).keepSet ⟨w.heap.size, 4, none⟩ (.int .i64 x.un) (by show w.heap.size ≠ p; omega))
    have R9 := hide (RowS.hp (RowS.hp (RowS.hp (RowS.hp (RowS.hp R8.out (by simp) (Below.heap_setCell _ ⟨w.heap.size, 0, none⟩ (.int .i64 x.tk) q (by show q ≠ w.heap.size; omega))) (by simp) (Below.heap_setCell _ ⟨w.heap.size, 1, none⟩ (.slice (some ⟨p, 0, none⟩) x.pa.length k) q (by show q ≠ w.heap.size; omega))) (by simp) (Below.heap_setCell _ ⟨w.heap.size, 2, none⟩ (.bool x.de) q (by show q ≠ w.heap.size; omega))) (by simp) (Below.heap_setCell _ ⟨w.heap.size, 3, none⟩ (.bool x.sh) q (by show q ≠ w.heap.size; omega))) (by simp) (Below.heap_setCell _ ⟨w.heap.size, 4, none⟩ (.int .i64 x.un) q (by show q ≠ w.heap.size; omega)))
    clear A8 K8 HX8 R8
    refine hK.out _ _ (flat _ M9.out) (fun hHeld2 => ?_)
    clear hK K hHeld
    have hHeld := hHeld2
    clear hHeld2
    simp only [List.setIfInBounds_toArray, List.set_cons_succ, List.set_cons_zero]
    refine wpAnyH_take (i := 9) (v := ?_) rfl (by kernel_rfl) (by kernel_rfl) (by kernel_rfl) (fun _ _ _ h => h) (Or.inl ⟨by rfl, ?_⟩) (by assumption) ?_
    rotate_left
    · intro w hSw; (try dsimp only at hSw); go_simp; try with_reducible rfl
    simp only [Act.put, List.getElem_toArray, List.getElem_cons_succ, List.getElem_cons_zero, List.setIfInBounds_toArray, List.set_cons_succ, List.set_cons_zero]
    refine wpAnyH_done (by kernel_rfl) ?_ _
    clear hHeld
    go_wp2
    have r0 := (A9.out.2 0 _ rfl).1
    have r1 := (A9.out.2 1 _ rfl).1
    have r2 := (A9.out.2 2 _ rfl).1
    have r3 := (A9.out.2 3 _ rfl).1
    have r4 := (A9.out.2 4 _ rfl).1
    refine bodyPost_ret (v := .tuple #[.agg #[.int .i64 x.tk, .slice (some ⟨p, 0, none⟩) x.pa.length k, .bool x.de, .bool x.sh, .int .i64 x.un], .slice (some ⟨q, 0, none⟩) m8 c8]) (by simp [results, Try.results7, go_sem, r0, r1, r2, r3, r4]) rfl ⟨⟨x, p, x.pa.length, k, [] ++ x.pa ++ ss, q, m8, c8, rfl, HX9.out, HQ.out.1, HQ.out.2.1, R9.out, HQ.out.2.2.1, HQ.out.2.2.2⟩, K9.out⟩
end Go.Proofs.Ytclnpfpaabmkcab
