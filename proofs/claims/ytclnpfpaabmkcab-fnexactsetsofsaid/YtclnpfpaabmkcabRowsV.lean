/-
  Rows of sets that the call itself made: one more behind, and what they hold.
-/
import Derived.Test.YtclnpfpaabmkcabSets
import Derived.Test.YtclnpfpaabmkcabAppendPB
namespace Go.Proofs.Ytclnpfpaabmkcab
open Go.RowKit M
set_option linter.unusedVariables false

def sxCells (ps : List Sx) : List Value := ps.flatMap fun p => [.bool p.1, .string p.2.1, .string p.2.2.1, .string p.2.2.2]
theorem sxCells_length (ps : List Sx) : (sxCells ps).length = ps.length * 4 := by
  induction ps with
  | nil => rfl
  | cons h r ih => simp only [sxCells, List.flatMap_cons, List.length_append, List.length_cons, List.length_nil] at *; omega
theorem sxCells_append (ps ts : List Sx) : sxCells (ps ++ ts) = sxCells ps ++ sxCells ts := by simp [sxCells]
theorem sxCells_at (ps : List Sx) : ∀ j (hj : j < ps.length), (sxCells ps)[j * 4]? = some (.bool ps[j].1) ∧ (sxCells ps)[j * 4 + 1]? = some (.string ps[j].2.1) ∧ (sxCells ps)[j * 4 + 2]? = some (.string ps[j].2.2.1) ∧ (sxCells ps)[j * 4 + 3]? = some (.string ps[j].2.2.2) := by
  induction ps with
  | nil => intro j hj; cases hj
  | cons h r ih =>
    intro j hj
    have e : sxCells (h :: r) = .bool h.1 :: .string h.2.1 :: .string h.2.2.1 :: .string h.2.2.2 :: sxCells r := rfl
    rw [e]
    cases j with
    | zero => exact ⟨rfl, rfl, rfl, rfl⟩
    | succ j =>
      have h1 := ih j (by simpa using hj)
      have e1 : (j + 1) * 4 = j * 4 + 1 + 1 + 1 + 1 := by omega
      have e2 : (j + 1) * 4 + 1 = j * 4 + 1 + 1 + 1 + 1 + 1 := by omega
      have e3 : (j + 1) * 4 + 2 = j * 4 + 2 + 1 + 1 + 1 + 1 := by omega
      have e4 : (j + 1) * 4 + 3 = j * 4 + 3 + 1 + 1 + 1 + 1 := by omega
      rw [e2, e3, e4, e1]
      simp only [List.getElem?_cons_succ, List.getElem_cons_succ]
      exact h1
/-- A row of sets that the call owns. -/
def OwnV (w : World) (B : Nat) (v : Value) (ps : List Sx) : Prop := w.ownsRow B 93 4 v ps.length (sxCells ps)
theorem OwnV.made (w : World) (B : Nat) (hB : B ≤ w.heap.size) : OwnV (w.alloc (Obj.cells #[] 93)) B (.slice (some ⟨w.heap.size, 0, none⟩) 0 0) [] :=
  ⟨rfl, .inr ⟨w.heap.size, 0, #[], rfl, hB, heap_alloc_new w _, Nat.le_refl _, Nat.zero_le _, rfl, rfl⟩⟩
theorem OwnV.alloc {w : World} {B : Nat} {v : Value} {ps : List Sx} (h : OwnV w B v ps) (o : Obj) : OwnV (w.alloc o) B v ps := World.ownsRow.alloc h o
theorem OwnV.next {w w' : World} {B : Nat} {v : Value} {ps : List Sx} (h : OwnV w B v ps) (hb : Below w.heap.size w w') : OwnV w' B v ps :=
  World.ownsRow.kept (row := none) h ⟨hb.os, hb.tape, hb.output, hb.size, fun k hk _ => hb.block k hk⟩ (Classical.em _)
theorem OwnV.grown {w w' : World} {B N : Nat} {v : Value} {ps : List Sx} (h : OwnV w B v ps) (hg : w.grownBy w' (some N)) (hN : N < B) : OwnV w' B v ps :=
  World.ownsRow.kept h hg (by
    rcases h.2 with ⟨e, _⟩ | ⟨g, c, cur, e, hB, _⟩
    · left; rw [e]; rfl
    · right; rw [e]; simp [Value.ownBlock]; omega)
theorem OwnV.low {w : World} {B C : Nat} {v : Value} {ps : List Sx} (h : OwnV w B v ps) (hC : C ≤ B) : OwnV w C v ps := by
  refine ⟨h.1, ?_⟩
  rcases h.2 with h | ⟨g, cap, cur, e, hB, hr⟩
  · exact .inl h
  · exact .inr ⟨g, cap, cur, e, Nat.le_trans hC hB, hr⟩
theorem OwnV.sts {w : World} {B g n c : Nat} {ps : List Sx} (h : OwnV w B (.slice (some ⟨g, 0, none⟩) n c) ps) : n = ps.length ∧ Sts w w.heap.size (some ⟨g, 0, none⟩) ps ∧ n ≤ c ∧ c ≤ maxLen ∧ B ≤ g := by
  have hlt := World.ownsRow.lt h g rfl
  rcases h.2 with ⟨e, _⟩ | ⟨g', c', cur, e, hB, hh, h1, h2, _⟩
  · cases e
  · cases e
    refine ⟨rfl, fun h0 => ⟨g, 0, rfl, hlt.2, fun j hj => ?_⟩, h1, h2, hB⟩
    obtain ⟨c0, c1, c2, c3⟩ := sxCells_at ps j hj
    have hl := sxCells_length ps
    rw [Nat.zero_add]
    refine ⟨?_, ?_, ?_, ?_⟩
    · rw [World.ownsRow.cellAt h (j * 4) (by omega)]; exact c0
    · rw [World.ownsRow.cellAt h (j * 4 + 1) (by omega)]; exact c1
    · rw [World.ownsRow.cellAt h (j * 4 + 2) (by omega)]; exact c2
    · rw [World.ownsRow.cellAt h (j * 4 + 3) (by omega)]; exact c3
theorem below_grownV {w w' : World} {B n : Nat} {v : Value} {xs : List Value} (hown : w.ownsRow B 93 4 v n xs) (hB : B ≤ w.heap.size) (hg : w.grownBy w' v.ownBlock) : Below B w w' :=
  ⟨hg.os, hg.tape, hg.output, hg.size, fun k hk => hg.block k (by omega) (fun e => by have := (hown.lt k e.symm).1; omega)⟩

/-- 'l = append(l, s)' on a row that the call owns. -/
theorem wp_append_set {w : World} {ops : Array Oper} {rest : List Oper} {o : Oper} {a : Act} {Q : Exit → Act → World → Prop} (hgd : o.guard = none) (s x : Operand)
    (ho : o.op = .call { callee := .builtin .append, args := #[s, x], argTypes := #[54, 54] })
    (B : Nat) (v : Value) (l : List Sx) (hs : a.eval s = v) (hown : OwnV w B v l)
    (N : Nat) (c : Sx) (hx : a.eval x = .slice (some ⟨N, 0, none⟩) 1 1) (hc0 : w.cell? ⟨N, 0, none⟩ = some (.bool c.1)) (hc1 : w.cell? ⟨N, 1, none⟩ = some (.string c.2.1)) (hc2 : w.cell? ⟨N, 2, none⟩ = some (.string c.2.2.1)) (hc3 : w.cell? ⟨N, 3, none⟩ = some (.string c.2.2.2)) (hlen : l.length + 1 ≤ 1099511627776) (hB : B ≤ w.heap.size)
    (h : ∀ g n cap w', n = (l ++ [c]).length → OwnV w' B (.slice (some ⟨g, 0, none⟩) n cap) (l ++ [c]) → Below B w w' → wpList Try.prog ops Q rest (a.put o.dst (.slice (some ⟨g, 0, none⟩) n cap)) w') : wpList Try.prog ops Q (o :: rest) a w := by
  obtain ⟨i0, hi, hz0, hz1, hz2⟩ := info_parts info_set
  refine wpList_append_own w hgd s x 54 ho B 93 i0 _ 4 56 Try.underlying54 hi hz0 hz1 hz2 rfl (by decide) v l.length _ hs hown ⟨N, 0, none⟩ 1 1 [.bool c.1, .string c.2.1, .string c.2.2.1, .string c.2.2.2] hx rfl ?_ ?_ ?_ ?_ hB ?_
  · intro j u hj
    have e : ∀ k, (⟨N, 0, none⟩ : Addr).add k = ⟨N, k, none⟩ := fun k => by unfold Addr.add; split <;> simp_all
    rw [e]
    match j, hj with
    | 0, hj => simp at hj; subst hj; exact hc0
    | 1, hj => simp at hj; subst hj; exact hc1
    | 2, hj => simp at hj; subst hj; exact hc2
    | 3, hj => simp at hj; subst hj; exact hc3
  · intro u hu; simp at hu; rcases hu with rfl | rfl | rfl | rfl <;> rfl
  · unfold maxLen; omega
  · omega
  · intro v' w' ho' hg _
    obtain ⟨g, cap, rfl⟩ : ∃ g cap, v' = .slice (some ⟨g, 0, none⟩) (l.length + 1) cap := by
      rcases ho'.2 with ⟨_, h0⟩ | ⟨g, cap, cur, hv, _⟩
      · omega
      · exact ⟨g, cap, hv⟩
    refine h g (l.length + 1) cap w' (by simp) ?_ (below_grownV hown hB hg)
    unfold OwnV
    rw [sxCells_append, show (l ++ [c]).length = l.length + 1 by simp]
    exact ho'
end Go.Proofs.Ytclnpfpaabmkcab
