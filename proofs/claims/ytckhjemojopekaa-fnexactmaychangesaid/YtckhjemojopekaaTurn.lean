/-
  What turns none but certain blocks.
-/
import Derived.Below
import Derived.WalkKit
namespace Go.Proofs.Ytckhjemojopekaa
open Go.RowKit
set_option linter.unusedVariables false

/-- No block that was there is turned, but those of S. -/
structure Turn (S : Nat → Prop) (w w' : World) : Prop where
  os : w'.os = w.os
  tape : w'.tape = w.tape
  output : w'.output = w.output
  size : w.heap.size ≤ w'.heap.size
  block : ∀ i, i < w.heap.size → ¬ S i → w'.heap[i]? = w.heap[i]?
theorem Turn.refl (S : Nat → Prop) (w : World) : Turn S w w := ⟨rfl, rfl, rfl, Nat.le_refl _, fun _ _ _ => rfl⟩
theorem Turn.trans {S : Nat → Prop} {a b c : World} (h : Turn S a b) (k : Turn S b c) : Turn S a c :=
  ⟨k.os.trans h.os, k.tape.trans h.tape, k.output.trans h.output, Nat.le_trans h.size k.size, fun i hi hS => (k.block i (Nat.lt_of_lt_of_le hi h.size) hS).trans (h.block i hi hS)⟩
theorem Turn.wide {S T : Nat → Prop} {a b : World} (h : Turn S a b) (hT : ∀ x, S x → T x) : Turn T a b := ⟨h.os, h.tape, h.output, h.size, fun i hi hS => h.block i hi (fun e => hS (hT i e))⟩
theorem Turn.of_below {S : Nat → Prop} {a b : World} (h : Below a.heap.size a b) : Turn S a b := ⟨h.os, h.tape, h.output, h.size, fun i hi _ => h.block i hi⟩
theorem Turn.set {S : Nat → Prop} (w : World) (p : Addr) (v : Value) (h : S p.block) : Turn S w (w.setCell p v) := ⟨rfl, rfl, rfl, by simp, fun i _ hS => Below.heap_setCell w p v i (fun e => hS (by rw [e]; exact h))⟩
theorem Turn.below {S : Nat → Prop} {a b : World} {C : Nat} (h : Turn S a b) (hC : ∀ x, S x → C ≤ x) (hz : C ≤ a.heap.size) : Below C a b := ⟨h.os, h.tape, h.output, h.size, fun i hi => h.block i (by omega) (fun e => by have := hC i e; omega)⟩
theorem Turn.cell {S : Nat → Prop} {a b : World} (h : Turn S a b) {i : Nat} (hi : i < a.heap.size) (hS : ¬ S i) (o : Nat) : b.cell? ⟨i, o, none⟩ = a.cell? ⟨i, o, none⟩ := by
  have := h.block i hi hS
  simp only [World.cell?, this]
theorem Turn.frozen {S : Nat → Prop} {a b : World} (h : Turn S a b) {i : Nat} (hi : i < a.heap.size) (hS : ¬ S i) (o : Nat) : b.frozen? ⟨i, o, none⟩ = a.frozen? ⟨i, o, none⟩ := by
  have := h.block i hi hS
  simp only [World.frozen?, this]
end Go.Proofs.Ytckhjemojopekaa
