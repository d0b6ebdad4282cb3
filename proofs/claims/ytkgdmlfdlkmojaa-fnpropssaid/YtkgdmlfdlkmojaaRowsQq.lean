/-
  Rows of what is known that the call itself made: one more behind, and what they hold.
-/
import Derived.Test.YtkgdmlfdlkmojaaAppendP
namespace Go.Proofs.Ytkgdmlfdlkmojaa
open Go.RowKit M
set_option linter.unusedVariables false

theorem ppCells_append (ps ts : List Pp) : ppCells (ps ++ ts) = ppCells ps ++ ppCells ts := by simp [ppCells]
/-- A row that the call owns, or nil. -/
def OwnQ (w : World) (B : Nat) (v : Value) (ps : List Pp) : Prop := w.ownsRow B 36 3 v ps.length (ppCells ps)
theorem OwnQ.made (w : World) (B : Nat) (hB : B ≤ w.heap.size) : OwnQ (w.alloc (Obj.cells #[] 36)) B (.slice (some ⟨w.heap.size, 0, none⟩) 0 0) [] :=
  ⟨rfl, .inr ⟨w.heap.size, 0, #[], rfl, hB, heap_alloc_new w _, Nat.le_refl _, Nat.zero_le _, rfl, rfl⟩⟩
theorem OwnQ.nil (w : World) (B : Nat) : OwnQ w B (.slice none 0 0) [] := ⟨rfl, .inl ⟨rfl, rfl⟩⟩
theorem OwnQ.alloc {w : World} {B : Nat} {v : Value} {ps : List Pp} (h : OwnQ w B v ps) (o : Obj) : OwnQ (w.alloc o) B v ps := World.ownsRow.alloc h o
theorem OwnQ.next {w w' : World} {B : Nat} {v : Value} {ps : List Pp} (h : OwnQ w B v ps) (hb : Below w.heap.size w w') : OwnQ w' B v ps :=
  World.ownsRow.kept (row := none) h ⟨hb.os, hb.tape, hb.output, hb.size, fun k hk _ => hb.block k hk⟩ (Classical.em _)
theorem OwnQ.slice {w : World} {B : Nat} {v : Value} {ps : List Pp} (h : OwnQ w B v ps) : ∃ a cap, v = .slice a ps.length cap ∧ (a = none → cap = 0) ∧ Pps w w.heap.size a ps ∧ cap ≤ maxLen := by
  rcases h.2 with ⟨e, h0⟩ | ⟨g, cap, cur, hv, hB, hh, h1, h2, _⟩
  · have hl : ps = [] := List.length_eq_zero_iff.1 h0
    subst hl
    exact ⟨none, 0, e, fun _ => rfl, Pps.nil _ _ _, Nat.zero_le _⟩
  · subst hv
    refine ⟨some ⟨g, 0, none⟩, cap, rfl, (fun e => by cases e), fun h0 => ⟨g, 0, rfl, (World.ownsRow.lt h g rfl).2, fun j hj => ?_⟩, h2⟩
    obtain ⟨c0, c1, c2⟩ := ppCells_at ps j hj
    have hl := ppCells_length ps
    rw [Nat.zero_add]
    refine ⟨?_, ?_, ?_⟩
    · rw [World.ownsRow.cellAt h (j * 3) (by omega)]; exact c0
    · rw [World.ownsRow.cellAt h (j * 3 + 1) (by omega)]; exact c1
    · rw [World.ownsRow.cellAt h (j * 3 + 2) (by omega)]; exact c2
theorem OwnQ.base {w : World} {B C : Nat} {v : Value} {ps : List Pp} (h : OwnQ w B v ps) (hC : C ≤ B) : OwnQ w C v ps := by
  refine ⟨h.1, ?_⟩
  rcases h.2 with h | ⟨g, cap, cur, e, hB, hr⟩
  · exact .inl h
  · exact .inr ⟨g, cap, cur, e, Nat.le_trans hC hB, hr⟩
/-- A row with an address. -/
theorem OwnQ.row {w : World} {B : Nat} {g n cap : Nat} {ps : List Pp} (h : OwnQ w B (.slice (some ⟨g, 0, none⟩) n cap) ps) (hn : n = ps.length) : RowP w g ps ∧ B ≤ g ∧ n ≤ cap ∧ cap ≤ maxLen := by
  subst hn
  exact owns_rowP h rfl

/-- 'l = append(l, p)' on a row that the call owns. -/
theorem wp_append_prop {w : World} {ops : Array Oper} {rest : List Oper} {o : Oper} {a : Act} {Q : Exit → Act → World → Prop} (hgd : o.guard = none) (s x : Operand)
    (ho : o.op = .call { callee := .builtin .append, args := #[s, x], argTypes := #[24, 24] })
    (B : Nat) (v : Value) (l : List Pp) (hs : a.eval s = v) (hown : OwnQ w B v l)
    (N : Nat) (c : Pp) (hx : a.eval x = .slice (some ⟨N, 0, none⟩) 1 1) (hc0 : w.cell? ⟨N, 0, none⟩ = some (.string c.1)) (hc1 : w.cell? ⟨N, 1, none⟩ = some (.string c.2.1)) (hc2 : w.cell? ⟨N, 2, none⟩ = some (.string c.2.2)) (hlen : l.length + 1 ≤ 1099511627776) (hB : B ≤ w.heap.size)
    (h : ∀ g n cap w', n = (l ++ [c]).length → OwnQ w' B (.slice (some ⟨g, 0, none⟩) n cap) (l ++ [c]) → Below B w w' → wpList Try.prog ops Q rest (a.put o.dst (.slice (some ⟨g, 0, none⟩) n cap)) w') : wpList Try.prog ops Q (o :: rest) a w := by
  obtain ⟨i0, hi, hz0, hz1, hz2⟩ := info_parts info_prop
  refine wpList_append_own w hgd s x 24 ho B 36 i0 _ 3 48 Try.underlying24 hi hz0 hz1 hz2 rfl (by decide) v l.length _ hs hown ⟨N, 0, none⟩ 1 1 [.string c.1, .string c.2.1, .string c.2.2] hx rfl ?_ ?_ ?_ ?_ hB ?_
  · intro j u hj
    have e : ∀ k, (⟨N, 0, none⟩ : Addr).add k = ⟨N, k, none⟩ := fun k => by unfold Addr.add; split <;> simp_all
    rw [e]
    match j, hj with
    | 0, hj => simp at hj; subst hj; exact hc0
    | 1, hj => simp at hj; subst hj; exact hc1
    | 2, hj => simp at hj; subst hj; exact hc2
  · intro u hu; simp at hu; rcases hu with rfl | rfl | rfl <;> rfl
  · unfold maxLen; omega
  · omega
  · intro v' w' ho' hg _
    obtain ⟨g, cap, rfl⟩ : ∃ g cap, v' = .slice (some ⟨g, 0, none⟩) (l.length + 1) cap := by
      rcases ho'.2 with ⟨_, h0⟩ | ⟨g, cap, cur, hv, _⟩
      · omega
      · exact ⟨g, cap, hv⟩
    refine h g (l.length + 1) cap w' (by simp) ?_ (below_grownP hown hB hg)
    unfold OwnQ
    rw [ppCells_append, show (l ++ [c]).length = l.length + 1 by simp]
    exact ho'

/-- 'append([]impl.Prop{}, l...)', as a row that the call owns. -/
theorem wp_append_propsO {w : World} {ops : Array Oper} {rest : List Oper} {o : Oper} {a : Act} {Q : Exit → Act → World → Prop} (hgd : o.guard = none) (s x : Operand)
    (ho : o.op = .call { callee := .builtin .append, args := #[s, x], argTypes := #[24, 24] })
    (B g0 : Nat) (l : List Pp) (n : Nat) (hn : n = l.length) (hs : a.eval s = .slice (some ⟨g0, 0, none⟩) 0 0) (hown : w.ownsRow B 36 3 (.slice (some ⟨g0, 0, none⟩) 0 0) 0 [])
    (C : Nat) (pa : Option Addr) (pc : Nat) (hx : a.eval x = .slice pa n pc) (hst : Pps w C pa l) (hpn : pa = none → pc = 0) (hlen : n ≤ 1048576000) (hB : B ≤ w.heap.size)
    (h : ∀ g cap w', OwnQ w' B (.slice (some ⟨g, 0, none⟩) n cap) l → Below B w w' → wpList Try.prog ops Q rest (a.put o.dst (.slice (some ⟨g, 0, none⟩) n cap)) w') : wpList Try.prog ops Q (o :: rest) a w := by
  obtain ⟨i0, hi, hz0, hz1, hz2⟩ := info_parts info_prop
  cases pa with
  | none =>
    have h0 : n = 0 := by
      rw [hn]
      by_cases e : 0 < l.length
      · obtain ⟨_, _, e', _⟩ := hst e; cases e'
      · omega
    have hl : l = [] := List.length_eq_zero_iff.1 (by omega)
    subst hl h0
    rw [hpn rfl] at hx
    have hr := run_append_owned_none (P := Try.prog) (w := w) B 24 o.type 36 i0 3 Try.underlying24 hi _ _ _ hown
    refine wpList_plain hgd fun K hK => ?_
    unfold Oper.wp execOp
    simp only [ho, resolve, invoke, builtin, Sem.run_bind, Sem.run_pure, Result.andThen_ok, List.map_toArray, List.map_cons, List.map_nil, hs, hx, hr]
    exact hK _ _ (h g0 0 w hown (Below.refl _ _))
  | some ad =>
    refine wpList_append_own w hgd s x 24 ho B 36 i0 _ 3 48 Try.underlying24 hi hz0 hz1 hz2 rfl (by decide) _ 0 _ hs hown ad n pc (ppCells l) hx (by rw [ppCells_length, hn]) ?_ ?_ ?_ ?_ hB ?_
    · intro j u hj
      have hjl : j < l.length * 3 := by have := (List.getElem?_eq_some_iff.1 hj).1; rwa [ppCells_length] at this
      obtain ⟨b, o', e, _, hc⟩ := hst (by omega)
      have e' : ad = ⟨b, o', none⟩ := by cases e; rfl
      subst e'
      have e2 : (⟨b, o', none⟩ : Addr).add j = ⟨b, o' + j, none⟩ := by unfold Addr.add; split <;> simp_all
      rw [e2]
      obtain ⟨d0, d1, d2⟩ := hc (j / 3) (by omega)
      obtain ⟨c0, c1, c2⟩ := ppCells_at l (j / 3) (by omega)
      have e3 : j = j / 3 * 3 ∨ j = j / 3 * 3 + 1 ∨ j = j / 3 * 3 + 2 := by omega
      rcases e3 with e3 | e3 | e3
      · rw [← e3] at c0 d0; rw [d0, ← c0]; exact hj
      · rw [← e3] at c1; rw [show o' + j = o' + j / 3 * 3 + 1 by omega, d1, ← c1]; exact hj
      · rw [← e3] at c2; rw [show o' + j = o' + j / 3 * 3 + 2 by omega, d2, ← c2]; exact hj
    · intro u hu
      unfold ppCells at hu
      obtain ⟨y, _, hy⟩ := List.mem_flatMap.1 hu
      simp only [List.mem_cons, List.not_mem_nil, or_false] at hy
      rcases hy with rfl | rfl | rfl <;> rfl
    · unfold maxLen; omega
    · omega
    · intro v' w' ho' hg hnn
      rw [Nat.zero_add] at ho'
      obtain ⟨g, cap, rfl⟩ : ∃ g cap, v' = .slice (some ⟨g, 0, none⟩) n cap := by
        rcases ho'.2 with ⟨e, h0⟩ | ⟨g, cap, cur, hv, _⟩
        · have := (hnn.1 e).1; cases this
        · exact ⟨g, cap, hv⟩
      have ho2 : OwnQ w' B (.slice (some ⟨g, 0, none⟩) n cap) l := by
        unfold OwnQ
        rw [← hn]
        exact ho'
      exact h g cap w' ho2 (below_grownP hown hB hg)
end Go.Proofs.Ytkgdmlfdlkmojaa
