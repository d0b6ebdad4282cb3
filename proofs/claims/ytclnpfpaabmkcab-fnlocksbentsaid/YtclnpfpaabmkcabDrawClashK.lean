/-
  What FnLocksBent draws: spec.DrawLockClash.
-/
import Derived.Test.YtclnpfpaabmkcabRowCK
import Derived.Deep.RegionHeld3
namespace Go.Proofs.Ytclnpfpaabmkcab
open Go.RowKit M
set_option linter.unusedVariables false

theorem OneK.keep {w w' : World} {x : Lk} {p m k : Nat} (h : OneK w x p m k) (hz : w.heap.size ≤ w'.heap.size) (e : w'.heap[p]? = w.heap[p]?) : OneK w' x p m k :=
  ⟨h.1, h.2.1, h.2.2.1, h.2.2.2.1, RowS.hp h.2.2.2.2.1 hz e, h.2.2.2.2.2⟩
theorem OneK.keepG {w w' : World} {x : Lk} {p m k N : Nat} (h : OneK w x p m k) (g : w.grownBy w' (some N)) (hp : N ≠ p) : OneK w' x p m k :=
  h.keep g.size (g.block p h.2.2.2.2.1.1 (fun e => hp (Option.some.inj e).symm))
theorem OneK.keepSet {w : World} {x : Lk} {p m k : Nat} (h : OneK w x p m k) (a : Addr) (v : Value) (hp : a.block ≠ p) : OneK (w.setCell a v) x p m k :=
  h.keep (by simp) (Below.heap_setCell _ _ _ _ (fun e => hp e.symm))
theorem OneK.next {w w' : World} {x : Lk} {p m k : Nat} (h : OneK w x p m k) (b : Below w.heap.size w w') : OneK w' x p m k :=
  h.keep b.size (b.block p h.2.2.2.2.1.1)
def ClaK (e : Ending) (w' : World) : Prop := ∃ (x : Lk) (p m k : Nat) (y : Lk) (q n j : Nat), e = .returned (.tuple #[.agg #[.int .i64 x.tk, .slice (some ⟨p, 0, none⟩) m k, .bool x.de, .bool x.sh, .int .i64 x.un], .agg #[.int .i64 y.tk, .slice (some ⟨q, 0, none⟩) n j, .bool y.de, .bool y.sh, .int .i64 y.un]]) ∧ OneK w' x p m k ∧ OneK w' y q n j

set_option maxRecDepth 100000 in
set_option maxHeartbeats 8000000 in
theorem drawLockClash_any {w : World} {B : Nat} {a : Option Addr} {len : Nat} {zs : List Int} (h : CodeIn w B a len zs) (cap : Nat) :
    Calls Try.prog 8 #[.slice a len cap] w fun e w' => ClaK e w' ∧ Below w.heap.size w w' := by
  have b0 := ((Below.refl w.heap.size w).alloc (Nat.le_refl _) (Obj.cells #[.int .i64 0, .slice none 0 0, .bool false, .bool false, .int .i64 0] 26)).alloc (by simp) (Obj.cells #[.int .i64 0, .slice none 0 0, .bool false, .bool false, .int .i64 0] 26)
  have HC := hide (h.below (b0.mono h.hB))
  have K0 := hide b0
  have A0 := hide (show BoxV ((w.alloc (Obj.cells #[.int .i64 0, .slice none 0 0, .bool false, .bool false, .int .i64 0] 26)).alloc (Obj.cells #[.int .i64 0, .slice none 0 0, .bool false, .bool false, .int .i64 0] 26)) w.heap.size [.int .i64 0, .slice none 0 0, .bool false, .bool false, .int .i64 0] from (BoxV.made w [.int .i64 0, .slice none 0 0, .bool false, .bool false, .int .i64 0] 26).alloc _)
  have B0 := hide (show BoxV ((w.alloc (Obj.cells #[.int .i64 0, .slice none 0 0, .bool false, .bool false, .int .i64 0] 26)).alloc (Obj.cells #[.int .i64 0, .slice none 0 0, .bool false, .bool false, .int .i64 0] 26)) (w.heap.size + 1) [.int .i64 0, .slice none 0 0, .bool false, .bool false, .int .i64 0] by have h := BoxV.made (w.alloc (Obj.cells #[.int .i64 0, .slice none 0 0, .bool false, .bool false, .int .i64 0] 26)) [.int .i64 0, .slice none 0 0, .bool false, .bool false, .int .i64 0] 26; simpa using h)
  clear h b0
  go_enter Try.func8, Try.ntmps8
  go_wp2_with fail
  refine (newDX HC.out cap).mono ?_
  rintro e w1 ⟨rfl, hd1, b1⟩
  obtain ⟨N, hN⟩ : ∃ n, ((w.alloc (Obj.cells #[.int .i64 0, .slice none 0 0, .bool false, .bool false, .int .i64 0] 26)).alloc (Obj.cells #[.int .i64 0, .slice none 0 0, .bool false, .bool false, .int .i64 0] 26)).heap.size = n := ⟨_, rfl⟩
  have hNw : w.heap.size + 2 = N := by rw [← hN]; simp
  rw [hN] at hd1 ⊢
  have hN1 : N < w1.heap.size := hd1.lt
  have D1 := hide hd1
  have K1 := hide (K0.out.trans (b1.mono K0.out.size))
  have A1 := hide (A0.out.next b1)
  have B1 := hide (B0.out.next b1)
  have HNW := hide hNw
  have hNw2 : w.heap.size + 1 < N := by omega
  clear hd1 b1 K0 A0 B0 HC hN hNw
  go_wp2_with fail
  refine (l13Lock_any D1.out).mono ?_
  rintro e w2 ⟨⟨x, p, m, k, x1, x2, x3, hm, rfl, ho⟩, dx2, g2⟩
  obtain ⟨q1, q2, q3, q4⟩ := rowS_of ho hm
  subst hm
  have hz12 := g2.size
  have bA := (Below.refl w2.heap.size w2).alloc (Nat.le_refl _) (Obj.cells #[.int .i64 x.tk, .slice (some ⟨p, 0, none⟩) x.pa.length k, .bool x.de, .bool x.sh, .int .i64 x.un] 26)
  have bD : Below w2.heap.size w2 (w2.alloc (Obj.cells #[.int .i64 x.tk, .slice (some ⟨p, 0, none⟩) x.pa.length k, .bool x.de, .bool x.sh, .int .i64 x.un] 26)).drew := below_drewG bA
  have HX4 := hide (show OneK (w2.alloc (Obj.cells #[.int .i64 x.tk, .slice (some ⟨p, 0, none⟩) x.pa.length k, .bool x.de, .bool x.sh, .int .i64 x.un] 26)).drew x p x.pa.length k from (show OneK w2 x p x.pa.length k from ⟨x1, x2, x3, rfl, q1, q2, q3⟩).next bD)
  have K4 := hide ((K1.out.trans (grown_below g2 (by omega) (by omega) : Below w.heap.size w1 w2)).trans (bD.mono (by omega)))
  have A4 := hide ((A1.out.grown g2 (by omega)).next bD)
  have B4 := hide ((B1.out.grown g2 (by omega)).next bD)
  have M4 := hide ((BoxV.made w2 [.int .i64 x.tk, .slice (some ⟨p, 0, none⟩) x.pa.length k, .bool x.de, .bool x.sh, .int .i64 x.un] 26).drew)
  have DD := hide (dx2.below bD)
  have hpN : N < p := by omega
  obtain ⟨M, hM⟩ : ∃ n, w2.heap.size = n := ⟨_, rfl⟩
  have hM1 : w2.heap.size ≤ M := Nat.le_of_eq hM
  have hM2 : M ≤ w2.heap.size := Nat.le_of_eq hM.symm
  have HM := hide hM
  have hzd : (w2.alloc (Obj.cells #[.int .i64 x.tk, .slice (some ⟨p, 0, none⟩) x.pa.length k, .bool x.de, .bool x.sh, .int .i64 x.un] 26)).drew.heap.size = w2.heap.size + 1 := by simp
  clear x1 x2 x3 q1 q2 q3 ho dx2 g2 D1 K1 A1 B1 bA bD hM
  have flat : ∀ W : World, BoxV W M [.int .i64 x.tk, .slice (some ⟨p, 0, none⟩) x.pa.length k, .bool x.de, .bool x.sh, .int .i64 x.un] → (W.cell? ⟨M, 0, none⟩ = some (.int .i64 x.tk) ∧ W.cell? ⟨M, 1, none⟩ = some (.slice (some ⟨p, 0, none⟩) x.pa.length k) ∧ W.cell? ⟨M, 2, none⟩ = some (.bool x.de) ∧ W.cell? ⟨M, 3, none⟩ = some (.bool x.sh) ∧ W.cell? ⟨M, 4, none⟩ = some (.int .i64 x.un)) := fun W X => ⟨(X.2 0 _ rfl).1, (X.2 1 _ rfl).1, (X.2 2 _ rfl).1, (X.2 3 _ rfl).1, (X.2 4 _ rfl).1⟩
  rw [HM.out] at M4
  go_wp2_with fail
  rw [HM.out]
  refine wp_region_held_drew (S := (fun W => W.cell? ⟨M, 0, none⟩ = some (.int .i64 x.tk) ∧ W.cell? ⟨M, 1, none⟩ = some (.slice (some ⟨p, 0, none⟩) x.pa.length k) ∧ W.cell? ⟨M, 2, none⟩ = some (.bool x.de) ∧ W.cell? ⟨M, 3, none⟩ = some (.bool x.sh) ∧ W.cell? ⟨M, 4, none⟩ = some (.int .i64 x.un))) (by kernel_rfl) (flat _ M4.out) (fun hHeld => ?_)
  clear hHeld
  obtain ⟨wd, hwd⟩ : ∃ X, (w2.alloc (Obj.cells #[.int .i64 x.tk, .slice (some ⟨p, 0, none⟩) x.pa.length k, .bool x.de, .bool x.sh, .int .i64 x.un] 26)).drew = X := ⟨_, rfl⟩
  rw [hwd] at K4 A4 B4 M4 DD HX4 hzd ⊢
  clear hwd
  have hHeld : (fun W : World => W.cell? ⟨M, 0, none⟩ = some (.int .i64 x.tk) ∧ W.cell? ⟨M, 1, none⟩ = some (.slice (some ⟨p, 0, none⟩) x.pa.length k) ∧ W.cell? ⟨M, 2, none⟩ = some (.bool x.de) ∧ W.cell? ⟨M, 3, none⟩ = some (.bool x.sh) ∧ W.cell? ⟨M, 4, none⟩ = some (.int .i64 x.un)) wd := flat _ M4.out
  simp only [List.size_toArray, List.length_cons, List.length_nil, Nat.reduceAdd, Array.replicate_succ, Array.replicate_zero, List.push_toArray, List.nil_append, List.cons_append]
  refine wpAnyH_take (i := 0) (v := ?_) rfl (by kernel_rfl) (by kernel_rfl) (by kernel_rfl) (fun _ _ _ h => h) (Or.inl ⟨by rfl, ?_⟩) (by assumption) ?_
  rotate_left
  · intro w hSw; (try dsimp only at hSw); go_simp; try with_reducible rfl
  simp only [Act.put, List.getElem_toArray, List.getElem_cons_zero, List.setIfInBounds_toArray, List.set_cons_zero]
  refine wpAnyH_take (i := 1) (v := ?_) rfl (by kernel_rfl) (by kernel_rfl) (by kernel_rfl) (fun _ _ _ h => h) (Or.inl ⟨by rfl, ?_⟩) (by assumption) ?_
  rotate_left
  · intro w hSw; (try dsimp only at hSw); go_simp; try with_reducible rfl
  simp only [Act.put, List.getElem_toArray, List.getElem_cons_succ, List.getElem_cons_zero, List.setIfInBounds_toArray, List.set_cons_succ, List.set_cons_zero]
  refine wpAnyH_ready (rs := [2]) (by kernel_rfl) (by simp) ?_
  refine AllReadyH.cons rfl (fun K hK => ?_) AllReadyH.nil
  go_simp
  refine (l13Lock_any DD.out).mono ?_
  rintro e w5 ⟨⟨y, q, n, j, y1, y2, y3, hm, rfl, ho⟩, dx5, g5⟩
  obtain ⟨r1, r2, r3, r4⟩ := rowS_of ho hm
  subst hm
  have HY := hide (show OneK w5 y q y.pa.length j from ⟨y1, y2, y3, rfl, r1, r2, r3⟩)
  have HXX := hide (HX4.out.keepG g5 (by have := hpN; omega))
  have K5 := hide (K4.out.trans (grown_below g5 (by omega) (by omega) : Below w.heap.size wd w5))
  have A5 := hide (A4.out.grown g5 (by omega))
  have B5 := hide (B4.out.grown g5 (by omega))
  have M5 := hide (M4.out.grown g5 (by omega))
  have hq5 : wd.heap.size ≤ q := r4
  clear y1 y2 y3 r1 r2 r3 ho dx5 g5 K4 A4 B4 M4 HX4
  refine hK.out _ _ (flat _ M5.out) (fun hHeld2 => ?_)
  clear hK K hHeld
  have hHeld := hHeld2
  clear hHeld2
  simp only [List.setIfInBounds_toArray, List.set_cons_succ, List.set_cons_zero]
  refine wpAnyH_ready (rs := [3]) (by kernel_rfl) (by simp) ?_
  refine AllReadyH.cons rfl (fun K hK => ?_) AllReadyH.nil
  obtain ⟨d0, f0⟩ := A5.out.2 0 _ rfl
  obtain ⟨d1, f1⟩ := A5.out.2 1 _ rfl
  obtain ⟨d2, f2⟩ := A5.out.2 2 _ rfl
  obtain ⟨d3, f3⟩ := A5.out.2 3 _ rfl
  obtain ⟨d4, f4⟩ := A5.out.2 4 _ rfl
  go_simp
  clear d0 f0 d1 f1 d2 f2 d3 f3 d4 f4
  have A6 := hide (((((A5.out.set 0 (by simp) (.int .i64 x.tk)).set 1 (by simp) (.slice (some ⟨p, 0, none⟩) x.pa.length k)).set 2 (by simp) (.bool x.de)).set 3 (by simp) (.bool x.sh)).set 4 (by simp) (.int .i64 x.un))
  have B6 := hide (((((B5.out.other ⟨w.heap.size, 0, none⟩ (.int .i64 x.tk) (by show w.heap.size ≠ w.heap.size + 1; omega)).other ⟨w.heap.size, 1, none⟩ (.slice (some ⟨p, 0, none⟩) x.pa.length k) (by show w.heap.size ≠ w.heap.size + 1; omega)).other ⟨w.heap.size, 2, none⟩ (.bool x.de) (by show w.heap.size ≠ w.heap.size + 1; omega)).other ⟨w.heap.size, 3, none⟩ (.bool x.sh) (by show w.heap.size ≠ w.heap.size + 1; omega)).other ⟨w.heap.size, 4, none⟩ (.int .i64 x.un) (by show w.heap.size ≠ w.heap.size + 1; omega))
  have K6 := hide (((((K5.out.setCell (p := ⟨w.heap.size, 0, none⟩) (by show w.heap.size ≤ w.heap.size; omega) (.int .i64 x.tk)).setCell (p := ⟨w.heap.size, 1, none⟩) (by show w.heap.size ≤ w.heap.size; omega) (.slice (some ⟨p, 0, none⟩) x.pa.length k)).setCell (p := ⟨w.heap.size, 2, none⟩) (by show w.heap.size ≤ w.heap.size; omega) (.bool x.de)).setCell (p := ⟨w.heap.size, 3, none⟩) (by show w.heap.size ≤ w.heap.size; omega) (.bool x.sh)).setCell (p := ⟨w.heap.size, 4, none⟩) (by show w.heap.size ≤ w.heap.size; omega) (.int .i64 x.un))
  have M6 := hide (((((M5.out.other ⟨w.heap.size, 0, none⟩ (.int .i64 x.tk) (by show w.heap.size ≠ M; omega)).other ⟨w.heap.size, 1, none⟩ (.slice (some ⟨p, 0, none⟩) x.pa.length k) (by show w.heap.size ≠ M; omega)).other ⟨w.heap.size, 2, none⟩ (.bool x.de) (by show w.heap.size ≠ M; omega)).other ⟨w.heap.size, 3, none⟩ (.bool x.sh) (by show w.heap.size ≠ M; omega)).other ⟨w.heap.size, 4, none⟩ (.int .i64 x.un) (by show w.heap.size ≠ M; omega))
  have HX6 := hide (((((HXX.out.keepSet ⟨w.heap.size, 0, none⟩ (.int .i64 x.tk) (by show w.heap.size ≠ p; omega)).keepSet ⟨w.heap.size, 1, none⟩ (.slice (some ⟨p, 0, none⟩) x.pa.length k) (by show w.heap.size ≠ p; omega)).keepSet ⟨w.heap.size, 2, none⟩ (.bool x.de) (by show w.heap.size ≠ p; omega)).keepSet ⟨w.heap.size, 3, none⟩ (.bool x.sh) (by show w.heap.size ≠ p; omega)).keepSet ⟨w.heap.size, 4, none⟩ (.int .i64 x.un) (by show w.heap.size ≠ p; omega))
  have HY6 := hide (((((HY.out.keepSet ⟨w.heap.size, 0, none⟩ (.int .i64 x.tk) (by show w.heap.size ≠ q; omega)).keepSet ⟨w.heap.size, 1, none⟩ (.slice (some ⟨p, 0, none⟩) x.pa.length k) (by show w.heap.size ≠ q; omega)).keepSet ⟨w.heap.size, 2, none⟩ (.bool x.de) (by show w.heap.size ≠ q; omega)).keepSet ⟨w.heap.size, 3, none⟩ (.bool x.sh) (by show w.heap.size ≠ q; omega)).keepSet ⟨w.heap.size, 4, none⟩ (.int .i64 x.un) (by show w.heap.size ≠ q; omega))
  clear A5 B5 K5 M5 HXX HY
  refine hK.out _ _ (flat _ M6.out) (fun hHeld2 => ?_)
  clear hK K hHeld
  have hHeld := hHeld2
  clear hHeld2
  simp only [List.setIfInBounds_toArray, List.set_cons_succ, List.set_cons_zero]
  refine wpAnyH_ready (rs := [4]) (by kernel_rfl) (by simp) ?_
  refine AllReadyH.cons rfl (fun K hK => ?_) AllReadyH.nil
  obtain ⟨d0, f0⟩ := B6.out.2 0 _ rfl
  obtain ⟨d1, f1⟩ := B6.out.2 1 _ rfl
  obtain ⟨d2, f2⟩ := B6.out.2 2 _ rfl
  obtain ⟨d3, f3⟩ := B6.out.2 3 _ rfl
  obtain ⟨d4, f4⟩ := B6.out.2 4 _ rfl
  go_simp
  clear d0 f0 d1 f1 d2 f2 d3 f3 d4 f4
  have B7 := hide (((((B6.out.set 0 (by simp) (.int .i64 y.tk)).set 1 (by simp) (.slice (some ⟨q, 0, none⟩) y.pa.length j)).set 2 (by simp) (.bool y.de)).set 3 (by simp) (.bool y.sh)).set 4 (by simp) (.int .i64 y.un))
  have A7 := hide (((((A6.out.other ⟨w.heap.size + 1, 0, none⟩ (.int .i64 y.tk) (by show w.heap.size + 1 ≠ w.heap.size; omega)).other ⟨w.heap.size + 1, 1, none⟩ (.slice (some ⟨q, 0, none⟩) y.pa.length j) (by show w.heap.size + 1 ≠ w.heap.size; omega)).other ⟨w.heap.size + 1, 2, none⟩ (.bool y.de) (by show w.heap.size + 1 ≠ w.heap.size; omega)).other ⟨w.heap.size + 1, 3, none⟩ (.bool y.sh) (by show w.heap.size + 1 ≠ w.heap.size; omega)).other ⟨w.heap.size + 1, 4, none⟩ (.int .i64 y.un) (by show w.heap.size + 1 ≠ w.heap.size; omega))
  have K7 := hide (((((K6.out.setCell (p := ⟨w.heap.size + 1, 0, none⟩) (by show w.heap.size ≤ w.heap.size + 1; omega) (.int .i64 y.tk)).setCell (p := ⟨w.heap.size + 1, 1, none⟩) (by show w.heap.size ≤ w.heap.size + 1; omega) (.slice (some ⟨q, 0, none⟩) y.pa.length j)).setCell (p := ⟨w.heap.size + 1, 2, none⟩) (by show w.heap.size ≤ w.heap.size + 1; omega) (.bool y.de)).setCell (p := ⟨w.heap.size + 1, 3, none⟩) (by show w.heap.size ≤ w.heap.size + 1; omega) (.bool y.sh)).setCell (p := ⟨w.heap.size + 1, 4, none⟩) (by show w.heap.size ≤ w.heap.size + 1; omega) (.int .i64 y.un))
  have M7 := hide (((((M6.out.other ⟨w.heap.size + 1, 0, none⟩ (.int .i64 y.tk) (by show w.heap.size + 1 ≠ M; omega)).other ⟨w.heap.size + 1, 1, none⟩ (.slice (some ⟨q, 0, none⟩) y.pa.length j) (by show w.heap.size + 1 ≠ M; omega)).other ⟨w.heap.size + 1, 2, none⟩ (.bool y.de) (by show w.heap.size + 1 ≠ M; omega)).other ⟨w.heap.size + 1, 3, none⟩ (.bool y.sh) (by show w.heap.size + 1 ≠ M; omega)).other ⟨w.heap.size + 1, 4, none⟩ (.int .i64 y.un) (by show w.heap.size + 1 ≠ M; omega))
  have HX7 := hide (((((HX6.out.keepSet ⟨w.heap.size + 1, 0, none⟩ (.int .i64 y.tk) (by show w.heap.size + 1 ≠ p; omega)).keepSet ⟨w.heap.size + 1, 1, none⟩ (.slice (some ⟨q, 0, none⟩) y.pa.length j) (by show w.heap.size + 1 ≠ p; omega)).keepSet ⟨w.heap.size + 1, 2, none⟩ (.bool y.de) (by show w.heap.size + 1 ≠ p; omega)).keepSet ⟨w.heap.size + 1, 3, none⟩ (.bool y.sh) (by show w.heap.size + 1 ≠ p; omega)).keepSet ⟨w.heap.size + 1, 4, none⟩ (.int .i64 y.un) (by show w.heap.size + 1 ≠ p; omega))
  have HY7 := hide (((((HY6.out.keepSet ⟨w.heap.size + 1, 0, none⟩ (.int .i64 y.tk) (by show w.heap.size + 1 ≠ q; omega)).keepSet ⟨w.heap.size + 1, 1, none⟩ (.slice (some ⟨q, 0, none⟩) y.pa.length j) (by show w.heap.size + 1 ≠ q; omega)).keepSet ⟨w.heap.size + 1, 2, none⟩ (.bool y.de) (by show w.heap.size + 1 ≠ q; omega)).keepSet ⟨w.heap.size + 1, 3, none⟩ (.bool y.sh) (by show w.heap.size + 1 ≠ q; omega)).keepSet ⟨w.heap.size + 1, 4, none⟩ (.int .i64 y.un) (by show w.heap.size + 1 ≠ q; omega))
  clear A6 B6 K6 M6 HX6 HY6
  refine hK.out _ _ (flat _ M7.out) (fun hHeld2 => ?_)
  clear hK K hHeld
  have hHeld := hHeld2
  clear hHeld2
  simp only [List.setIfInBounds_toArray, List.set_cons_succ, List.set_cons_zero]
  refine wpAnyH_done (by kernel_rfl) ?_ _
  clear hHeld
  go_wp2
  have r0 := (A7.out.2 0 _ rfl).1
  have s0 := (B7.out.2 0 _ rfl).1
  have r1 := (A7.out.2 1 _ rfl).1
  have s1 := (B7.out.2 1 _ rfl).1
  have r2 := (A7.out.2 2 _ rfl).1
  have s2 := (B7.out.2 2 _ rfl).1
  have r3 := (A7.out.2 3 _ rfl).1
  have s3 := (B7.out.2 3 _ rfl).1
  have r4 := (A7.out.2 4 _ rfl).1
  have s4 := (B7.out.2 4 _ rfl).1
  refine bodyPost_ret (v := .tuple #[.agg #[.int .i64 x.tk, .slice (some ⟨p, 0, none⟩) x.pa.length k, .bool x.de, .bool x.sh, .int .i64 x.un], .agg #[.int .i64 y.tk, .slice (some ⟨q, 0, none⟩) y.pa.length j, .bool y.de, .bool y.sh, .int .i64 y.un]]) (by simp [results, Try.results8, go_sem, r0, r1, r2, r3, r4, s0, s1, s2, s3, s4]) rfl ⟨⟨x, p, x.pa.length, k, y, q, y.pa.length, j, rfl, HX7.out, HY7.out⟩, K7.out⟩
end Go.Proofs.Ytclnpfpaabmkcab
