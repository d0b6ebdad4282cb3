/-
  'append([]impl.Prop{}, l...)' of whatever slice of what is known.
-/
import Derived.Test.YtclnpfpaabmkcabPropsB
import Derived.Laws.OwnMore
namespace Go.Proofs.Ytclnpfpaabmkcab
open Go.RowKit M
set_option linter.unusedVariables false

def ppCells (ps : List Pp) : List Value := ps.flatMap fun p => [.string p.1, .string p.2.1, .string p.2.2]
theorem ppCells_length (ps : List Pp) : (ppCells ps).length = ps.length * 3 := by
  induction ps with
  | nil => rfl
  | cons t l ih => simp only [ppCells, List.flatMap_cons, List.length_append, List.length_cons] at *; rw [ih]; simp only [List.length_nil]; omega
theorem ppCells_at (ps : List Pp) : ∀ j (hj : j < ps.length), (ppCells ps)[j * 3]? = some (.string ps[j].1) ∧ (ppCells ps)[j * 3 + 1]? = some (.string ps[j].2.1) ∧ (ppCells ps)[j * 3 + 2]? = some (.string ps[j].2.2) := by
  induction ps with
  | nil => intro j hj; exact absurd hj (Nat.not_lt_zero _)
  | cons t l ih =>
    intro j hj
    have e : ppCells (t :: l) = [.string t.1, .string t.2.1, .string t.2.2] ++ ppCells l := by simp [ppCells]
    rw [e]
    match j, hj with
    | 0, _ => simp
    | j + 1, hj =>
      have h1 := ih j (by simpa using hj)
      have hl : ([.string t.1, .string t.2.1, .string t.2.2] : List Value).length = 3 := rfl
      rw [List.getElem?_append_right (by rw [hl]; omega), List.getElem?_append_right (by rw [hl]; omega), List.getElem?_append_right (by rw [hl]; omega), hl]
      rw [show (j + 1) * 3 - 3 = j * 3 by omega, show (j + 1) * 3 + 1 - 3 = j * 3 + 1 by omega, show (j + 1) * 3 + 2 - 3 = j * 3 + 2 by omega]
      simpa using h1
theorem frozenP {w : World} {g : Nat} {cur : Array Value} {e : TypeId} (hh : w.heap[g]? = some (.cells cur e (0, 0))) (i : Nat) : w.frozen? ⟨g, i, none⟩ = false := by
  simp only [World.frozen?, hh, Bool.and_eq_false_iff, decide_eq_false_iff_not]
  right
  omega
theorem below_grownP {w w' : World} {B n : Nat} {v : Value} {xs : List Value} (hown : w.ownsRow B 91 3 v n xs) (hB : B ≤ w.heap.size) (hg : w.grownBy w' v.ownBlock) : Below B w w' :=
  ⟨hg.os, hg.tape, hg.output, hg.size, fun k hk => hg.block k (by omega) (fun e => by have := (World.ownsRow.lt hown k e.symm).1; omega)⟩
theorem owns_rowP {w : World} {B g n cap : Nat} {ps : List Pp} (h : w.ownsRow B 91 3 (.slice (some ⟨g, 0, none⟩) n cap) n (ppCells ps)) (hn : ps.length = n) : RowP w g ps ∧ B ≤ g ∧ n ≤ cap ∧ cap ≤ maxLen := by
  subst hn
  have hlt := h.lt g rfl
  rcases h.2 with ⟨e, _⟩ | ⟨g', cap', cur, hv, hB, hh, h1, h2, _⟩
  · cases e
  · cases hv
    refine ⟨⟨hlt.2, fun j hj => ?_, fun i => frozenP hh i⟩, hlt.1, h1, h2⟩
    obtain ⟨c0, c1, c2⟩ := ppCells_at ps j hj
    have hl := ppCells_length ps
    refine ⟨?_, ?_, ?_⟩
    · rw [h.cellAt (j * 3) (by omega)]; exact c0
    · rw [h.cellAt (j * 3 + 1) (by omega)]; exact c1
    · rw [h.cellAt (j * 3 + 2) (by omega)]; exact c2

end Go.Proofs.Ytclnpfpaabmkcab
