/-
  A request that lies in a box of the call's own.
-/
import Derived.Test.YtkhnkockdfmkgaaGreatDoorHeads
namespace Go.Proofs.YtkhnkockdfmkgaaGreatDoor
open Go.RowKit M

/-- The box N holds this request. -/
def BoxR (w : World) (N : Nat) (a : Option Addr) (cap : Nat) (r : Rq) : Prop :=
  N < w.heap.size ∧ w.cell? ⟨N, 0, none⟩ = some (.string r.m) ∧ w.cell? ⟨N, 1, none⟩ = some (.string r.p) ∧ w.cell? ⟨N, 2, none⟩ = some (.slice a r.hs.length cap) ∧ w.cell? ⟨N, 3, none⟩ = some (.string r.b)

theorem BoxR.below {w w' : World} {N C : Nat} {a : Option Addr} {cap : Nat} {r : Rq} (h : BoxR w N a cap r) (hb : Below C w w') (hC : N < C) : BoxR w' N a cap r := by
  obtain ⟨h0, h1, h2, h3, h4⟩ := h
  exact ⟨Nat.lt_of_lt_of_le h0 hb.size, (hb.cell (p := ⟨N, 0, none⟩) hC).trans h1, (hb.cell (p := ⟨N, 1, none⟩) hC).trans h2, (hb.cell (p := ⟨N, 2, none⟩) hC).trans h3, (hb.cell (p := ⟨N, 3, none⟩) hC).trans h4⟩
theorem BoxR.next {w w' : World} {N : Nat} {a : Option Addr} {cap : Nat} {r : Rq} (h : BoxR w N a cap r) (hb : Below w.heap.size w w') : BoxR w' N a cap r := h.below hb h.1

theorem BoxR.made (w : World) (a : Option Addr) (cap : Nat) (r : Rq) (T : TypeId) : BoxR (w.alloc (Obj.cells #[Value.string r.m, Value.string r.p, Value.slice a r.hs.length cap, Value.string r.b] T)) w.heap.size a cap r := ⟨by simp, by simp, by simp, by simp, by simp⟩
theorem BoxR.alloc {w : World} {N : Nat} {a : Option Addr} {cap : Nat} {r : Rq} (h : BoxR w N a cap r) (o : Obj) : BoxR (w.alloc o) N a cap r := h.next ((Below.refl _ _).alloc (Nat.le_refl _) _)
theorem Hds.alloc {w : World} {B : Nat} {a : Option Addr} {hs : List Hd} (h : Hds w B a hs) (hB : B ≤ w.heap.size) (o : Obj) : Hds (w.alloc o) B a hs := h.below ((Below.refl w.heap.size w).alloc (Nat.le_refl _) o) hB

/-- The cells of two boxes, one by one. -/
theorem keep8 {w : World} {N M : Nat} {a b : Option Addr} {cap cap' : Nat} {r q : Rq} (hx : BoxR w N a cap r) (hy : BoxR w M b cap' q) :
    w.cell? ⟨N, 0, none⟩ = some (.string r.m) ∧ w.cell? ⟨N, 1, none⟩ = some (.string r.p) ∧ w.cell? ⟨N, 2, none⟩ = some (.slice a r.hs.length cap) ∧ w.cell? ⟨N, 3, none⟩ = some (.string r.b) ∧ w.cell? ⟨M, 0, none⟩ = some (.string q.m) ∧ w.cell? ⟨M, 1, none⟩ = some (.string q.p) ∧ w.cell? ⟨M, 2, none⟩ = some (.slice b q.hs.length cap') ∧ w.cell? ⟨M, 3, none⟩ = some (.string q.b) := by
  obtain ⟨_, h1, h2, h3, h4⟩ := hx
  obtain ⟨_, g1, g2, g3, g4⟩ := hy
  exact ⟨h1, h2, h3, h4, g1, g2, g3, g4⟩
theorem keep4 {w : World} {N : Nat} {a : Option Addr} {cap : Nat} {r : Rq} (hx : BoxR w N a cap r) :
    w.cell? ⟨N, 0, none⟩ = some (.string r.m) ∧ w.cell? ⟨N, 1, none⟩ = some (.string r.p) ∧ w.cell? ⟨N, 2, none⟩ = some (.slice a r.hs.length cap) ∧ w.cell? ⟨N, 3, none⟩ = some (.string r.b) := by
  obtain ⟨_, h1, h2, h3, h4⟩ := hx
  exact ⟨h1, h2, h3, h4⟩
theorem BoxR.drew {w : World} {N : Nat} {a : Option Addr} {cap : Nat} {r : Rq} (h : BoxR w N a cap r) : BoxR w.drew N a cap r := h
theorem below_drew {w w' : World} {C : Nat} (h : Below C w w') : Below C w w'.drew := ⟨h.os, h.tape, h.output, h.size, h.block⟩
theorem Hds.drew {w : World} {B : Nat} {a : Option Addr} {hs : List Hd} (h : Hds w B a hs) : Hds w.drew B a hs := h

/-- The box N holds this head. -/
def BoxH (w : World) (N : Nat) (x y : ByteArray) : Prop := N < w.heap.size ∧ w.cell? ⟨N, 0, none⟩ = some (.string x) ∧ w.cell? ⟨N, 1, none⟩ = some (.string y)
theorem BoxH.next {w w' : World} {N : Nat} {x y : ByteArray} (h : BoxH w N x y) (hb : Below w.heap.size w w') : BoxH w' N x y :=
  ⟨Nat.lt_of_lt_of_le h.1 hb.size, (hb.cell (p := ⟨N, 0, none⟩) h.1).trans h.2.1, (hb.cell (p := ⟨N, 1, none⟩) h.1).trans h.2.2⟩
theorem BoxH.made (w : World) (x y : ByteArray) (T : TypeId) : BoxH (w.alloc (Obj.cells #[Value.string x, Value.string y] T)) w.heap.size x y := ⟨by simp, by simp, by simp⟩
end Go.Proofs.YtkhnkockdfmkgaaGreatDoor
