/-
  A lock in a box.
-/
import Derived.Test.YtackgogcpdbnlaaLocks
namespace Go.Proofs.Ytackgogcpdbnlaa
open Go.RowKit M
set_option linter.unusedVariables false

def BoxL (w : World) (N : Nat) (r : Lk) (pa : Option Addr) (pc : Nat) : Prop :=
  N < w.heap.size ∧ w.cell? ⟨N, 0, none⟩ = some (.int .i64 r.tk) ∧ w.cell? ⟨N, 1, none⟩ = some (.slice pa r.pa.length pc) ∧ w.cell? ⟨N, 2, none⟩ = some (.bool r.de) ∧ w.cell? ⟨N, 3, none⟩ = some (.bool r.sh) ∧ w.cell? ⟨N, 4, none⟩ = some (.int .i64 r.un)
theorem BoxL.made (w : World) (r : Lk) (pa : Option Addr) (pc : Nat) (t : TypeId) : BoxL (w.alloc (Obj.cells #[.int .i64 r.tk, .slice pa r.pa.length pc, .bool r.de, .bool r.sh, .int .i64 r.un] t)) w.heap.size r pa pc := by
  refine ⟨by simp, ?_, ?_, ?_, ?_, ?_⟩ <;> simp [go_sem]
theorem BoxL.next {w w' : World} {N : Nat} {r : Lk} {pa : Option Addr} {pc : Nat} (h : BoxL w N r pa pc) (hb : Below w.heap.size w w') : BoxL w' N r pa pc := by
  obtain ⟨h0, h1⟩ := h
  refine ⟨Nat.lt_of_lt_of_le h0 hb.size, ?_⟩
  simp only [(bcellL hb).1 N _ h0]
  exact h1
theorem BoxL.alloc {w : World} {N : Nat} {r : Lk} {pa : Option Addr} {pc : Nat} (h : BoxL w N r pa pc) (o : Obj) : BoxL (w.alloc o) N r pa pc := h.next ((Below.refl _ _).alloc (Nat.le_refl _) o)
theorem BoxL.drew {w : World} {N : Nat} {r : Lk} {pa : Option Addr} {pc : Nat} (h : BoxL w N r pa pc) : BoxL w.drew N r pa pc := h.next (below_drewL (Below.refl _ _))
theorem keepL2 {w : World} {N M : Nat} {r s : Lk} {pa qa : Option Addr} {pc qc : Nat} (h : BoxL w N r pa pc) (k : BoxL w M s qa qc) :
    w.cell? ⟨N, 0, none⟩ = some (.int .i64 r.tk) ∧ w.cell? ⟨N, 1, none⟩ = some (.slice pa r.pa.length pc) ∧ w.cell? ⟨N, 2, none⟩ = some (.bool r.de) ∧ w.cell? ⟨N, 3, none⟩ = some (.bool r.sh) ∧ w.cell? ⟨N, 4, none⟩ = some (.int .i64 r.un) ∧ w.cell? ⟨M, 0, none⟩ = some (.int .i64 s.tk) ∧ w.cell? ⟨M, 1, none⟩ = some (.slice qa s.pa.length qc) ∧ w.cell? ⟨M, 2, none⟩ = some (.bool s.de) ∧ w.cell? ⟨M, 3, none⟩ = some (.bool s.sh) ∧ w.cell? ⟨M, 4, none⟩ = some (.int .i64 s.un) :=
  ⟨h.2.1, h.2.2.1, h.2.2.2.1, h.2.2.2.2.1, h.2.2.2.2.2, k.2.1, k.2.2.1, k.2.2.2.1, k.2.2.2.2.1, k.2.2.2.2.2⟩
theorem lkIn_row {w : World} {p C : Nat} {r : Lk} (h : RowS w p r.pa) (hC : p < C) (hl : r.pa.length ≤ maxLen) : LkIn w C r (some ⟨p, 0, none⟩) r.pa.length :=
  ⟨h.strs' hC, Nat.le_refl _, hl, fun e => by cases e⟩
end Go.Proofs.Ytackgogcpdbnlaa
