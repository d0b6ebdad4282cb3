/-
  An answer that lies in a box of the call's own.
-/
import Derived.Test.YtnoijfnpchihoabDoorBoxReq
import Derived.Test.YtnoijfnpchihoabDoorExtract
namespace Go.Proofs.YtnoijfnpchihoabDoor
open Go.RowKit M

def ShortA (r : Rs) : Prop := r.b.size ≤ maxLen ∧ r.hs.length ≤ maxLen ∧ ShortH r.hs
/-- Short enough for a copy of each text. -/
def FitA (r : Rs) : Prop := ShortA r ∧ ∀ x ∈ r.hs, x.2.size ≤ 281474976710656
/-- The box N holds this answer. -/
def BoxA (w : World) (N : Nat) (a : Option Addr) (cap : Nat) (r : Rs) : Prop :=
  N < w.heap.size ∧ w.cell? ⟨N, 0, none⟩ = some (.int .i64 r.c) ∧ w.cell? ⟨N, 1, none⟩ = some (.slice a r.hs.length cap) ∧ w.cell? ⟨N, 2, none⟩ = some (.string r.b)
theorem BoxA.below {w w' : World} {N C : Nat} {a : Option Addr} {cap : Nat} {r : Rs} (h : BoxA w N a cap r) (hb : Below C w w') (hC : N < C) : BoxA w' N a cap r := by
  obtain ⟨h0, h1, h2, h3⟩ := h
  exact ⟨Nat.lt_of_lt_of_le h0 hb.size, (hb.cell (p := ⟨N, 0, none⟩) hC).trans h1, (hb.cell (p := ⟨N, 1, none⟩) hC).trans h2, (hb.cell (p := ⟨N, 2, none⟩) hC).trans h3⟩
theorem BoxA.next {w w' : World} {N : Nat} {a : Option Addr} {cap : Nat} {r : Rs} (h : BoxA w N a cap r) (hb : Below w.heap.size w w') : BoxA w' N a cap r := h.below hb h.1
theorem BoxA.made (w : World) (a : Option Addr) (cap : Nat) (r : Rs) (T : TypeId) : BoxA (w.alloc (Obj.cells #[Value.int .i64 r.c, Value.slice a r.hs.length cap, Value.string r.b] T)) w.heap.size a cap r := ⟨by simp, by simp, by simp, by simp⟩
theorem BoxA.alloc {w : World} {N : Nat} {a : Option Addr} {cap : Nat} {r : Rs} (h : BoxA w N a cap r) (o : Obj) : BoxA (w.alloc o) N a cap r := h.next ((Below.refl _ _).alloc (Nat.le_refl _) _)
theorem BoxA.drew {w : World} {N : Nat} {a : Option Addr} {cap : Nat} {r : Rs} (h : BoxA w N a cap r) : BoxA w.drew N a cap r := h
theorem keep6 {w : World} {N M : Nat} {a b : Option Addr} {cap cap' : Nat} {r q : Rs} (hx : BoxA w N a cap r) (hy : BoxA w M b cap' q) :
    w.cell? ⟨N, 0, none⟩ = some (.int .i64 r.c) ∧ w.cell? ⟨N, 1, none⟩ = some (.slice a r.hs.length cap) ∧ w.cell? ⟨N, 2, none⟩ = some (.string r.b) ∧ w.cell? ⟨M, 0, none⟩ = some (.int .i64 q.c) ∧ w.cell? ⟨M, 1, none⟩ = some (.slice b q.hs.length cap') ∧ w.cell? ⟨M, 2, none⟩ = some (.string q.b) := by
  obtain ⟨_, h1, h2, h3⟩ := hx
  obtain ⟨_, g1, g2, g3⟩ := hy
  exact ⟨h1, h2, h3, g1, g2, g3⟩
theorem sameA_c {a b : Rs} (h : ¬ a.c = b.c) : sameA a b = false := by simp [sameA, h]
theorem sameA_h {a b : Rs} (h : sameH a.hs b.hs = false) : sameA a b = false := by simp [sameA, h]
theorem sameA_b {a b : Rs} (h : ¬ a.b = b.b) : sameA a b = false := by simp [sameA, h]
theorem sameA_all {a b : Rs} (h1 : a.c = b.c) (h3 : sameH a.hs b.hs = true) (h4 : a.b = b.b) : sameA a b = true := by simp [sameA, h1, h3, h4]
theorem sameA_refl (a : Rs) : sameA a a = true := by simp [sameA, sameH]
theorem respB_c {r : Rs} (h : codeB r.c = false) : respB r = false := by simp [respB, h]
theorem respB_h {r : Rs} (h : hdsB r.hs = false) : respB r = false := by simp [respB, h]
theorem respB_b {r : Rs} (h1 : codeB r.c = true) (h3 : hdsB r.hs = true) : respB r = decide ((r.b.size : Int) ≤ 400) := by
  by_cases e : r.b.size ≤ 400
  · have e2 : (r.b.size : Int) ≤ 400 := by omega
    simp [respB, h1, h3, e, e2]
  · have e2 : ¬ (r.b.size : Int) ≤ 400 := by omega
    simp [respB, h1, h3, e, e2]
end Go.Proofs.YtnoijfnpchihoabDoor
