/-
  A node in a box, and that it stays.
-/
import Derived.Test.YtclnpfpaabmkcabNodes
namespace Go.Proofs.Ytclnpfpaabmkcab
open Go.RowKit M
set_option linter.unusedVariables false

/-- A node in a box. -/
structure BoxN (w : World) (b : Nat) (a : Option Addr) (cap : Nat) (n : Nd) : Prop where
  lt : b < w.heap.size
  c0 : w.cell? ⟨b, 0, none⟩ = some (.string n.ns)
  c1 : w.cell? ⟨b, 1, none⟩ = some (.string n.nm)
  c2 : w.cell? ⟨b, 2, none⟩ = some (.string n.tx)
  c3 : w.cell? ⟨b, 3, none⟩ = some (.slice a n.ks.length cap)
theorem BoxN.made (w : World) (a : Option Addr) (cap : Nat) (n : Nd) (T : TypeId) : BoxN (w.alloc (Obj.cells #[.string n.ns, .string n.nm, .string n.tx, .slice a n.ks.length cap] T)) w.heap.size a cap n :=
  ⟨by simp, by simp, by simp, by simp, by simp⟩
theorem BoxN.next {w w' : World} {b : Nat} {a : Option Addr} {cap : Nat} {n : Nd} (h : BoxN w b a cap n) (hb : Below w.heap.size w w') : BoxN w' b a cap n :=
  ⟨Nat.lt_of_lt_of_le h.lt hb.size, by rw [(bcellN hb).1 b 0 h.lt]; exact h.c0, by rw [(bcellN hb).1 b 1 h.lt]; exact h.c1, by rw [(bcellN hb).1 b 2 h.lt]; exact h.c2, by rw [(bcellN hb).1 b 3 h.lt]; exact h.c3⟩
theorem BoxN.keep {w w' : World} {b C : Nat} {a : Option Addr} {cap : Nat} {n : Nd} (h : BoxN w b a cap n) (hb : Below C w w') (hC : b < C) : BoxN w' b a cap n :=
  ⟨Nat.lt_of_lt_of_le h.lt hb.size, by rw [hb.cell (p := ⟨b, 0, none⟩) hC]; exact h.c0, by rw [hb.cell (p := ⟨b, 1, none⟩) hC]; exact h.c1, by rw [hb.cell (p := ⟨b, 2, none⟩) hC]; exact h.c2, by rw [hb.cell (p := ⟨b, 3, none⟩) hC]; exact h.c3⟩
theorem BoxN.drew {w : World} {b : Nat} {a : Option Addr} {cap : Nat} {n : Nd} (h : BoxN w b a cap n) : BoxN w.drew b a cap n := ⟨h.lt, h.c0, h.c1, h.c2, h.c3⟩
theorem BoxN.alloc {w : World} {b : Nat} {a : Option Addr} {cap : Nat} {n : Nd} (h : BoxN w b a cap n) (x : Obj) : BoxN (w.alloc x) b a cap n :=
  h.next ((Below.refl w.heap.size w).alloc (Nat.le_refl _) x)

theorem keepB {W : World} {b c : Nat} {a a' : Option Addr} {cap cap' : Nat} {n m : Nd} (h : BoxN W b a cap n) (h' : BoxN W c a' cap' m) :
    W.cell? ⟨b, 0, none⟩ = some (.string n.ns) ∧ W.cell? ⟨b, 1, none⟩ = some (.string n.nm) ∧ W.cell? ⟨b, 2, none⟩ = some (.string n.tx) ∧ W.cell? ⟨b, 3, none⟩ = some (.slice a n.ks.length cap) ∧
    W.cell? ⟨c, 0, none⟩ = some (.string m.ns) ∧ W.cell? ⟨c, 1, none⟩ = some (.string m.nm) ∧ W.cell? ⟨c, 2, none⟩ = some (.string m.tx) ∧ W.cell? ⟨c, 3, none⟩ = some (.slice a' m.ks.length cap') :=
  ⟨h.c0, h.c1, h.c2, h.c3, h'.c0, h'.c1, h'.c2, h'.c3⟩

end Go.Proofs.Ytclnpfpaabmkcab
