/-
  'append([]string{}, p...)'.
-/
import Derived.Test.YtehoilheihpopabOwnStrs
namespace Go.Proofs.Ytehoilheihpopab
open Go.RowKit
set_option linter.unusedVariables false

/-- 'append([]string{}, p...)': the same texts, in a new row. -/
theorem wp_append_all {w : World} {ops : Array Oper} {rest : List Oper} {o : Oper} {a : Act} {Q : Exit → Act → World → Prop} (hgd : o.guard = none) (s x : Operand)
    (ho : o.op = .call { callee := .builtin .append, args := #[s, x], argTypes := #[23, 23] })
    (B : Nat) (v : Value) (l : List ByteArray) (n : Nat) (hn : n = l.length) (hs : a.eval s = v) (hown : w.ownsRow B 9 1 v 0 (strCells []))
    (g c : Nat) (hx : a.eval x = .slice (some ⟨g, 0, none⟩) n c) (hcell : ∀ j (hj : j < l.length), w.cell? ⟨g, j, none⟩ = some (.string l[j])) (hlen : n ≤ 1099511627776) (hB : B ≤ w.heap.size)
    (h : ∀ v' w', w'.ownsRow B 9 1 v' n (strCells l) → Below B w w' → wpList Try.prog ops Q rest (a.put o.dst v') w') : wpList Try.prog ops Q (o :: rest) a w := by
  obtain ⟨i0, hi, hz0, hz1, hz2⟩ := info_parts info_str
  refine wpList_append_own w hgd s x 23 ho B 9 i0 (.string ByteArray.empty) 1 16 Try.underlying23 hi hz0 hz1 hz2 rfl (by decide) v 0 _ hs hown ⟨g, 0, none⟩ n c (strCells l) hx (by rw [strCells_length, hn, Nat.mul_one]) ?_ ?_ ?_ ?_ hB ?_
  · intro j u hj
    have hjl : j < l.length := by have := (List.getElem?_eq_some_iff.1 hj).1; rwa [strCells_length] at this
    have e : (⟨g, 0, none⟩ : Addr).add j = ⟨g, j, none⟩ := by unfold Addr.add; split <;> simp_all
    rw [e, hcell j hjl]
    unfold strCells at hj
    rw [List.getElem?_map, List.getElem?_eq_getElem hjl] at hj
    exact hj
  · intro u hu
    unfold strCells at hu
    obtain ⟨y, _, rfl⟩ := List.mem_map.1 hu
    rfl
  · unfold maxLen; omega
  · omega
  · intro v' w' ho' hg _
    refine h v' w' ?_ (below_grown hown hB hg)
    rw [Nat.zero_add] at ho'
    exact ho'

end Go.Proofs.Ytehoilheihpopab
