/-
  Rows of locks that one call makes, one by one.
-/
import Derived.Test.YtackgogcpdbnlaaLocks
namespace Go.Proofs.Ytackgogcpdbnlaa
open Go.RowKit M
set_option linter.unusedVariables false

theorem run_make_locks (n : Nat) (hn : n ≤ 1048577) (w : World) :
    (Instr.makeSlice 24 (.int .i64 (n : Int)) (.int .i64 (n : Int))).run Try.prog w = .ok (.slice (some ⟨w.heap.size, 0, none⟩) n n) (w.alloc (.cells (madeCells #[.int .i64 0, .slice none 0 0, .bool false, .bool false, .int .i64 0] (n * 5)) 27)) := by
  obtain ⟨i, hi, hz, hs, hb⟩ := info_parts info_lock
  have hr := run_make (P := Try.prog) w 24 27 i _ Try.underlying24 hi hz .i64 .i64 n n (by omega) (Int.le_refl _) (by rw [hb]; omega) (by omega)
  simp only [Int.toNat_natCast, hs] at hr
  exact hr

/-- What is made so far. -/
def MadeL (w : World) (g : Nat) (rs : List Lk) (k : Nat) : Prop :=
  ∃ F : Nat → Value, w.rowIs g 27 (rs.length * 5) F ∧ ∃ pb : Nat → Nat, ∀ j (hj : j < rs.length), j < k →
    F (j * 5) = .int .i64 rs[j].tk ∧ F (j * 5 + 1) = .slice (some ⟨pb j, 0, none⟩) rs[j].pa.length rs[j].pa.length ∧ F (j * 5 + 2) = .bool rs[j].de ∧ F (j * 5 + 3) = .bool rs[j].sh ∧ F (j * 5 + 4) = .int .i64 rs[j].un ∧
    RowS w (pb j) rs[j].pa ∧ g < pb j ∧ ∀ i, i < j → pb i < pb j

theorem MadeL.start (w : World) (rs : List Lk) : MadeL (w.alloc (.cells (madeCells #[.int .i64 0, .slice none 0 0, .bool false, .bool false, .int .i64 0] (rs.length * 5)) 27)) w.heap.size rs 0 := by
  have hr := World.rowIs_alloc w (madeCells #[.int .i64 0, .slice none 0 0, .bool false, .bool false, .int .i64 0] (rs.length * 5)) 27 (fun i => ((madeCells #[.int .i64 0, .slice none 0 0, .bool false, .bool false, .int .i64 0] (rs.length * 5))[i]?).getD (.string ByteArray.empty)) (fun i hi => by rw [Array.getElem?_eq_getElem hi]; rfl)
  rw [size_madeCells] at hr
  exact ⟨_, hr, fun _ => 0, fun j _ hj => absurd hj (Nat.not_lt_zero _)⟩
theorem MadeL.below {w w1 : World} {g : Nat} {rs : List Lk} {k : Nat} (m : MadeL w g rs k) (hb : Below w.heap.size w w1) : MadeL w1 g rs k := by
  obtain ⟨F, hr, pb, hj⟩ := m
  refine ⟨F, hr.of_block (w' := w1) (hb.block _ hr.lt), pb, fun j hjl hjk => ?_⟩
  obtain ⟨e0, e1, e2, e3, e4, e5, e7⟩ := hj j hjl hjk
  exact ⟨e0, e1, e2, e3, e4, e5.below hb, e7⟩
theorem MadeL.lt {w : World} {g : Nat} {rs : List Lk} {k : Nat} (m : MadeL w g rs k) : g < w.heap.size := by obtain ⟨F, hr, _⟩ := m; exact hr.lt
theorem MadeL.cells {w : World} {g : Nat} {rs : List Lk} {k : Nat} (m : MadeL w g rs k) (hk : k < rs.length) : ∃ v0 v1 v2 v3 v4, w.cell? ⟨g, k * 5, none⟩ = some v0 ∧ w.cell? ⟨g, k * 5 + 1, none⟩ = some v1 ∧ w.cell? ⟨g, k * 5 + 2, none⟩ = some v2 ∧ w.cell? ⟨g, k * 5 + 3, none⟩ = some v3 ∧ w.cell? ⟨g, k * 5 + 4, none⟩ = some v4 ∧ w.frozen? ⟨g, k * 5, none⟩ = false ∧ w.frozen? ⟨g, k * 5 + 1, none⟩ = false ∧ w.frozen? ⟨g, k * 5 + 2, none⟩ = false ∧ w.frozen? ⟨g, k * 5 + 3, none⟩ = false ∧ w.frozen? ⟨g, k * 5 + 4, none⟩ = false := by
  obtain ⟨F, hr, _⟩ := m
  exact ⟨_, _, _, _, _, hr.cell (by omega), hr.cell (by omega), hr.cell (by omega), hr.cell (by omega), hr.cell (by omega), hr.frozen _, hr.frozen _, hr.frozen _, hr.frozen _, hr.frozen _⟩
theorem MadeL.next {w w1 : World} {g : Nat} {rs : List Lk} {k : Nat} (m : MadeL w g rs k) (hb : Below w.heap.size w w1) (hk : k < rs.length) (p : Nat) (hp : w.heap.size ≤ p) (rp : RowS w1 p rs[k].pa) :
    MadeL (((((w1.setCell ⟨g, k * 5, none⟩ (.int .i64 rs[k].tk)).setCell ⟨g, k * 5 + 1, none⟩ (.slice (some ⟨p, 0, none⟩) rs[k].pa.length rs[k].pa.length)).setCell ⟨g, k * 5 + 2, none⟩ (.bool rs[k].de)).setCell ⟨g, k * 5 + 3, none⟩ (.bool rs[k].sh)).setCell ⟨g, k * 5 + 4, none⟩ (.int .i64 rs[k].un)) g rs (k + 1) := by
  have hgl := m.lt
  obtain ⟨F0, hr0, pb0, hj0⟩ := m
  refine ⟨_, (((((hr0.of_block (w' := w1) (hb.block _ hr0.lt)).set (k * 5) (.int .i64 rs[k].tk)).set (k * 5 + 1) (.slice (some ⟨p, 0, none⟩) rs[k].pa.length rs[k].pa.length)).set (k * 5 + 2) (.bool rs[k].de)).set (k * 5 + 3) (.bool rs[k].sh)).set (k * 5 + 4) (.int .i64 rs[k].un), fun i => if i = k then p else pb0 i, fun j hjl hjk => ?_⟩
  by_cases e : j = k
  · subst e
    refine ⟨by simp, by simp, by simp, by simp, by simp, ?_, by simp; omega, fun i hi => ?_⟩
    · simp only [if_true]
      exact ((((rp.setCellL _ _ (by simp; omega)).setCellL _ _ (by simp; omega)).setCellL _ _ (by simp; omega)).setCellL _ _ (by simp; omega)).setCellL _ _ (by simp; omega)
    · simp only [show ¬ i = j by omega, if_true, if_false]
      have := (hj0 i (by omega) hi).2.2.2.2.2.1.1
      omega
  · obtain ⟨e0, e1, e2, e3, e4, e5, e7, e9⟩ := hj0 j hjl (by omega)
    have f5 := e5.below hb
    simp only [e, if_false]
    refine ⟨?_, ?_, ?_, ?_, ?_, ?_, e7, fun i hi => ?_⟩
    · simp only [show ¬ j * 5 = k * 5 + 4 by omega, show ¬ j * 5 = k * 5 + 3 by omega, show ¬ j * 5 = k * 5 + 2 by omega, show ¬ j * 5 = k * 5 + 1 by omega, show ¬ j * 5 = k * 5 by omega, if_false]; exact e0
    · simp only [show ¬ j * 5 + 1 = k * 5 + 4 by omega, show ¬ j * 5 + 1 = k * 5 + 3 by omega, show ¬ j * 5 + 1 = k * 5 + 2 by omega, show ¬ j * 5 + 1 = k * 5 + 1 by omega, show ¬ j * 5 + 1 = k * 5 by omega, if_false]; exact e1
    · simp only [show ¬ j * 5 + 2 = k * 5 + 4 by omega, show ¬ j * 5 + 2 = k * 5 + 3 by omega, show ¬ j * 5 + 2 = k * 5 + 2 by omega, show ¬ j * 5 + 2 = k * 5 + 1 by omega, show ¬ j * 5 + 2 = k * 5 by omega, if_false]; exact e2
    · simp only [show ¬ j * 5 + 3 = k * 5 + 4 by omega, show ¬ j * 5 + 3 = k * 5 + 3 by omega, show ¬ j * 5 + 3 = k * 5 + 2 by omega, show ¬ j * 5 + 3 = k * 5 + 1 by omega, show ¬ j * 5 + 3 = k * 5 by omega, if_false]; exact e3
    · simp only [show ¬ j * 5 + 4 = k * 5 + 4 by omega, show ¬ j * 5 + 4 = k * 5 + 3 by omega, show ¬ j * 5 + 4 = k * 5 + 2 by omega, show ¬ j * 5 + 4 = k * 5 + 1 by omega, show ¬ j * 5 + 4 = k * 5 by omega, if_false]; exact e4
    · exact ((((f5.setCellL _ _ (by simp; omega)).setCellL _ _ (by simp; omega)).setCellL _ _ (by simp; omega)).setCellL _ _ (by simp; omega)).setCellL _ _ (by simp; omega)
    · simp only [show ¬ i = k by omega, if_false]
      exact e9 i hi
theorem MadeL.done {w : World} {g : Nat} {rs : List Lk} {k : Nat} (m : MadeL w g rs k) (hk : ¬ k < rs.length) (hm : ∀ r ∈ rs, r.pa.length ≤ maxLen) : ∃ pb, OwnL w g w.heap.size g rs pb := by
  obtain ⟨F, hr, pb, hj⟩ := m
  refine ⟨pb, Nat.le_refl _, hr.lt, hr.lt, fun i => hr.frozen i, fun j hjl => ?_, fun j hjl => (hj j hjl (by omega)).2.2.2.2.2.1, fun j hjl => ?_, fun i j hij hjl => ?_⟩
  · obtain ⟨e0, e1, e2, e3, e4, _⟩ := hj j hjl (by omega)
    exact ⟨_, ⟨by rw [hr.cell (by omega), e0], by rw [hr.cell (by omega), e1], by rw [hr.cell (by omega), e2], by rw [hr.cell (by omega), e3], by rw [hr.cell (by omega), e4]⟩, Nat.le_refl _, hm _ (List.getElem_mem hjl)⟩
  · obtain ⟨_, _, _, _, _, e5, e7, _⟩ := hj j hjl (by omega)
    have := e5.1
    omega
  · obtain ⟨_, _, _, _, _, _, _, e9⟩ := hj j hjl (by omega)
    have o1 := e9 i hij
    omega
end Go.Proofs.Ytackgogcpdbnlaa
