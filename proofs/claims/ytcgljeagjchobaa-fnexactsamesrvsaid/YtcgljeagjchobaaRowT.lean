/-
  Rows of texts, none of them frozen.
-/
import Derived.Test.YtcgljeagjchobaaGenSrv
namespace Go.Proofs.Ytcgljeagjchobaa
open Go.RowKit
set_option linter.unusedVariables false

/-- A row of n texts in block g, none of them frozen. -/
def RowS (w : World) (g : Nat) (ms : List ByteArray) : Prop := g < w.heap.size ∧ ∀ j (hj : j < ms.length), w.cell? ⟨g, j, none⟩ = some (.string ms[j]) ∧ w.frozen? ⟨g, j, none⟩ = false
theorem RowS.below {w w' : World} {g : Nat} {ms : List ByteArray} (h : RowS w g ms) (hb : Below w.heap.size w w') : RowS w' g ms := by
  refine ⟨Nat.lt_of_lt_of_le h.1 hb.size, fun j hj => ?_⟩
  rw [hb.cell (p := ⟨g, j, none⟩) h.1, hb.frozen (p := ⟨g, j, none⟩) h.1]
  exact h.2 j hj
theorem RowS.set {w : World} {g : Nat} {ms : List ByteArray} (h : RowS w g ms) (k : Nat) (hk : k < ms.length) (x : ByteArray) : RowS (w.setCell ⟨g, k, none⟩ (.string x)) g (ms.set k x) := by
  refine ⟨by simpa using h.1, fun j hj => ?_⟩
  have hj' : j < ms.length := by simpa using hj
  refine ⟨?_, by rw [World.frozen?_setCell]; exact (h.2 j hj').2⟩
  by_cases e : k = j
  · subst e
    rw [World.cell?_setCell_same _ _ _ (h.2 k hk).1]
    simp
  · have hne : (⟨g, k, none⟩ : Addr) ≠ ⟨g, j, none⟩ := fun e' => e (congrArg Addr.off e')
    rw [World.cell?_setCell_other _ _ _ _ hne, (h.2 j hj').1]
    simp [e]

theorem RowS.row {w : World} {N n : Nat} {ss : List ByteArray} {f : Nat → Value} (h : w.rowIs N 9 n f) (hn : ss.length ≤ n) (hf : ∀ j (hj : j < ss.length), f j = .string ss[j]) : RowS w N ss :=
  ⟨h.lt, fun j hj => ⟨by rw [h.cell (by omega), hf j hj], h.frozen j⟩⟩
theorem RowS.strs' {w : World} {g C : Nat} {ns : List ByteArray} (h : RowS w g ns) (hC : g < C) : Strs w C (some ⟨g, 0, none⟩) ns := fun _ =>
  ⟨g, 0, rfl, hC, fun j hj => by rw [Nat.zero_add]; exact (h.2 j hj).1⟩
end Go.Proofs.Ytcgljeagjchobaa
