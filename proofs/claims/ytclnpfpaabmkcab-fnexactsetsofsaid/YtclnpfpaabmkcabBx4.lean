/-
  Four cells of a box, and that they stay.
-/
import Derived.Test.YtclnpfpaabmkcabRows
import Derived.WalkKit
import Derived.Below
namespace Go.Proofs.Ytclnpfpaabmkcab
open Go.RowKit
set_option linter.unusedVariables false

/-- Four cells of a box. -/
structure Bx (w : World) (b : Nat) (v0 v1 v2 v3 : Value) : Prop where
  lt : b < w.heap.size
  c0 : w.cell? ⟨b, 0, none⟩ = some v0
  c1 : w.cell? ⟨b, 1, none⟩ = some v1
  c2 : w.cell? ⟨b, 2, none⟩ = some v2
  c3 : w.cell? ⟨b, 3, none⟩ = some v3
  fz : ∀ k, w.frozen? ⟨b, k, none⟩ = false
theorem Bx.of {w w' : World} {b : Nat} {v0 v1 v2 v3 : Value} (h : Bx w b v0 v1 v2 v3) (hs : w.heap.size ≤ w'.heap.size) (hb : w'.heap[b]? = w.heap[b]?) : Bx w' b v0 v1 v2 v3 :=
  ⟨Nat.lt_of_lt_of_le h.lt hs, (World.cell?_of_block (a := ⟨b, 0, none⟩) hb).trans h.c0, (World.cell?_of_block (a := ⟨b, 1, none⟩) hb).trans h.c1, (World.cell?_of_block (a := ⟨b, 2, none⟩) hb).trans h.c2, (World.cell?_of_block (a := ⟨b, 3, none⟩) hb).trans h.c3, fun k => by have := h.fz k; simp only [World.frozen?, hb] at this ⊢; exact this⟩
theorem Bx.grown {w w' : World} {b N : Nat} {v0 v1 v2 v3 : Value} (h : Bx w b v0 v1 v2 v3) (hg : w.grownBy w' (some N)) (hN : b ≠ N) : Bx w' b v0 v1 v2 v3 :=
  h.of hg.size (hg.block b h.lt (by simpa using hN))
theorem Bx.next {w w' : World} {b L : Nat} {v0 v1 v2 v3 : Value} (h : Bx w b v0 v1 v2 v3) (hg : Below L w w') (hN : b < L) : Bx w' b v0 v1 v2 v3 :=
  h.of hg.size (hg.block b hN)
theorem Bx.other {w : World} {b b' k : Nat} {v0 v1 v2 v3 : Value} (h : Bx w b v0 v1 v2 v3) (v : Value) (hN : b ≠ b') : Bx (w.setCell ⟨b', k, none⟩ v) b v0 v1 v2 v3 :=
  h.of (by simp) (Below.heap_setCell _ _ _ _ hN)
theorem Bx.set2 {w : World} {b : Nat} {v0 v1 v2 v3 : Value} (h : Bx w b v0 v1 v2 v3) (v : Value) : Bx (w.setCell ⟨b, 2, none⟩ v) b v0 v1 v v3 :=
  ⟨by simpa using h.lt, (World.cell?_setCell_other _ _ _ _ (by simp)).trans h.c0, (World.cell?_setCell_other _ _ _ _ (by simp)).trans h.c1, World.cell?_setCell_same _ _ _ h.c2, (World.cell?_setCell_other _ _ _ _ (by simp)).trans h.c3, fun k => by rw [World.frozen?_setCell]; exact h.fz k⟩
theorem Bx.set3 {w : World} {b : Nat} {v0 v1 v2 v3 : Value} (h : Bx w b v0 v1 v2 v3) (v : Value) : Bx (w.setCell ⟨b, 3, none⟩ v) b v0 v1 v2 v :=
  ⟨by simpa using h.lt, (World.cell?_setCell_other _ _ _ _ (by simp)).trans h.c0, (World.cell?_setCell_other _ _ _ _ (by simp)).trans h.c1, (World.cell?_setCell_other _ _ _ _ (by simp)).trans h.c2, World.cell?_setCell_same _ _ _ h.c3, fun k => by rw [World.frozen?_setCell]; exact h.fz k⟩
theorem Bx.made (w : World) (v0 v1 v2 v3 : Value) (T : TypeId) : Bx (w.alloc (Obj.cells #[v0, v1, v2, v3] T)) w.heap.size v0 v1 v2 v3 :=
  ⟨by simp, by simp, by simp, by simp, by simp, fun k => World.frozen?_alloc_new w _ _ k⟩
theorem Bx.put4 {w : World} {b : Nat} {v0 v1 v2 v3 : Value} (h : Bx w b v0 v1 v2 v3) (x0 x1 x2 x3 : Value) : Bx ((((w.setCell ⟨b, 0, none⟩ x0).setCell ⟨b, 1, none⟩ x1).setCell ⟨b, 2, none⟩ x2).setCell ⟨b, 3, none⟩ x3) b x0 x1 x2 x3 := by
  have hn : ∀ (o i : Nat) (x : Value) (w : World), o ≠ i → (w.setCell ⟨b, i, none⟩ x).cell? ⟨b, o, none⟩ = w.cell? ⟨b, o, none⟩ := fun o i x w hne => World.cell?_setCell_other _ _ _ _ (fun e => hne (by have := congrArg Addr.off e; simp at this; exact this.symm))
  have hs : ∀ (o : Nat) (x y : Value) (w : World), w.cell? ⟨b, o, none⟩ = some y → (w.setCell ⟨b, o, none⟩ x).cell? ⟨b, o, none⟩ = some x := fun o x y w h => World.cell?_setCell_same _ _ _ h
  refine ⟨by simpa using h.lt, ?_, ?_, ?_, ?_, fun k => by simp only [World.frozen?_setCell]; exact h.fz k⟩
  · rw [hn 0 3 _ _ (by decide), hn 0 2 _ _ (by decide), hn 0 1 _ _ (by decide)]; exact hs 0 _ _ _ h.c0
  · rw [hn 1 3 _ _ (by decide), hn 1 2 _ _ (by decide)]; exact hs 1 _ v1 _ (by rw [hn 1 0 _ _ (by decide)]; exact h.c1)
  · rw [hn 2 3 _ _ (by decide)]; exact hs 2 _ v2 _ (by rw [hn 2 1 _ _ (by decide), hn 2 0 _ _ (by decide)]; exact h.c2)
  · exact hs 3 _ v3 _ (by rw [hn 3 2 _ _ (by decide), hn 3 1 _ _ (by decide), hn 3 0 _ _ (by decide)]; exact h.c3)
end Go.Proofs.Ytclnpfpaabmkcab
