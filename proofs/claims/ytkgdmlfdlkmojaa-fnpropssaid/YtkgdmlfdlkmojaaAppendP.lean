/-
  'append([]impl.Prop{}, l...)' of whatever slice of what is known.
-/
import Derived.Test.YtkgdmlfdlkmojaaProps
import Derived.Laws.OwnMore
namespace Go.Proofs.Ytkgdmlfdlkmojaa
open Go.RowKit M
set_option linter.unusedVariables false

def ppCells (ps : List Pp) : List Value := ps.flatMap fun p => [.string p.1, .string p.2.1, .string p.2.2]
theorem ppCells_length (ps : List Pp) : (ppCells ps).length = ps.length * 3 := by
  induction ps with
  | nil => rfl
  | cons t l ih => simp only [ppCells, List.flatMap_cons, List.length_append, List.length_cons] at *; rw [ih]; simp only [List.length_nil]; omega
theorem ppCells_at (ps : List Pp) : ∀ j (hj : j < ps.length), (ppCells ps)[j * 3]? = some (.string ps[j].1) ∧ (ppCells ps)[j * 3 + 1]? = some (.string ps[j].2.1) ∧ (ppCells ps)[j * 3 + 2]? = some (.string ps[j].2.2) := by
  induction ps with
  | nil => intro j hj; exact absurd hj (Nat.not_lt_zero _)
  | cons t l ih =>
    intro j hj
    have e : ppCells (t :: l) = [.string t.1, .string t.2.1, .string t.2.2] ++ ppCells l := by simp [ppCells]
    rw [e]
    match j, hj with
    | 0, _ => simp
    | j + 1, hj =>
      have h1 := ih j (by simpa using hj)
      have hl : ([.string t.1, .string t.2.1, .string t.2.2] : List Value).length = 3 := rfl
      rw [List.getElem?_append_right (by rw [hl]; omega), List.getElem?_append_right (by rw [hl]; omega), List.getElem?_append_right (by rw [hl]; omega), hl]
      rw [show (j + 1) * 3 - 3 = j * 3 by omega, show (j + 1) * 3 + 1 - 3 = j * 3 + 1 by omega, show (j + 1) * 3 + 2 - 3 = j * 3 + 2 by omega]
      simpa using h1
theorem frozenP {w : World} {g : Nat} {cur : Array Value} {e : TypeId} (hh : w.heap[g]? = some (.cells cur e (0, 0))) (i : Nat) : w.frozen? ⟨g, i, none⟩ = false := by
  simp only [World.frozen?, hh, Bool.and_eq_false_iff, decide_eq_false_iff_not]
  right
  omega
theorem below_grownP {w w' : World} {B n : Nat} {v : Value} {xs : List Value} (hown : w.ownsRow B 36 3 v n xs) (hB : B ≤ w.heap.size) (hg : w.grownBy w' v.ownBlock) : Below B w w' :=
  ⟨hg.os, hg.tape, hg.output, hg.size, fun k hk => hg.block k (by omega) (fun e => by have := (World.ownsRow.lt hown k e.symm).1; omega)⟩
theorem owns_rowP {w : World} {B g n cap : Nat} {ps : List Pp} (h : w.ownsRow B 36 3 (.slice (some ⟨g, 0, none⟩) n cap) n (ppCells ps)) (hn : ps.length = n) : RowP w g ps ∧ B ≤ g ∧ n ≤ cap ∧ cap ≤ maxLen := by
  subst hn
  have hlt := h.lt g rfl
  rcases h.2 with ⟨e, _⟩ | ⟨g', cap', cur, hv, hB, hh, h1, h2, _⟩
  · cases e
  · cases hv
    refine ⟨⟨hlt.2, fun j hj => ?_, fun i => frozenP hh i⟩, hlt.1, h1, h2⟩
    obtain ⟨c0, c1, c2⟩ := ppCells_at ps j hj
    have hl := ppCells_length ps
    refine ⟨?_, ?_, ?_⟩
    · rw [h.cellAt (j * 3) (by omega)]; exact c0
    · rw [h.cellAt (j * 3 + 1) (by omega)]; exact c1
    · rw [h.cellAt (j * 3 + 2) (by omega)]; exact c2

/-- The same, in a new row. -/
theorem wp_append_props {w : World} {ops : Array Oper} {rest : List Oper} {o : Oper} {a : Act} {Q : Exit → Act → World → Prop} (hgd : o.guard = none) (s x : Operand)
    (ho : o.op = .call { callee := .builtin .append, args := #[s, x], argTypes := #[24, 24] })
    (B g0 : Nat) (l : List Pp) (n : Nat) (hn : n = l.length) (hs : a.eval s = .slice (some ⟨g0, 0, none⟩) 0 0) (hown : w.ownsRow B 36 3 (.slice (some ⟨g0, 0, none⟩) 0 0) 0 [])
    (C : Nat) (pa : Option Addr) (pc : Nat) (hx : a.eval x = .slice pa n pc) (hst : Pps w C pa l) (hpn : pa = none → pc = 0) (hlen : n ≤ 1048576) (hB : B ≤ w.heap.size)
    (h : ∀ g cap w', RowP w' g l → B ≤ g → n ≤ cap → cap ≤ maxLen → Below B w w' → wpList Try.prog ops Q rest (a.put o.dst (.slice (some ⟨g, 0, none⟩) n cap)) w') : wpList Try.prog ops Q (o :: rest) a w := by
  obtain ⟨i0, hi, hz0, hz1, hz2⟩ := info_parts info_prop
  cases pa with
  | none =>
    have h0 : n = 0 := by
      rw [hn]
      by_cases e : 0 < l.length
      · obtain ⟨_, _, e', _⟩ := hst e; cases e'
      · omega
    have hl : l = [] := List.length_eq_zero_iff.1 (by omega)
    subst hl h0
    rw [hpn rfl] at hx
    have hr := run_append_owned_none (P := Try.prog) (w := w) B 24 o.type 36 i0 3 Try.underlying24 hi _ _ _ hown
    refine wpList_plain hgd fun K hK => ?_
    unfold Oper.wp execOp
    simp only [ho, resolve, invoke, builtin, Sem.run_bind, Sem.run_pure, Result.andThen_ok, List.map_toArray, List.map_cons, List.map_nil, hs, hx, hr]
    obtain ⟨r1, r2, r3, r4⟩ := owns_rowP (ps := []) (n := 0) hown rfl
    exact hK _ _ (h g0 0 w r1 r2 r3 r4 (Below.refl _ _))
  | some ad =>
    refine wpList_append_own w hgd s x 24 ho B 36 i0 _ 3 48 Try.underlying24 hi hz0 hz1 hz2 rfl (by decide) _ 0 _ hs hown ad n pc (ppCells l) hx (by rw [ppCells_length, hn]) ?_ ?_ ?_ ?_ hB ?_
    · intro j u hj
      have hjl : j < l.length * 3 := by have := (List.getElem?_eq_some_iff.1 hj).1; rwa [ppCells_length] at this
      obtain ⟨b, o', e, _, hc⟩ := hst (by omega)
      have e' : ad = ⟨b, o', none⟩ := by cases e; rfl
      subst e'
      have e2 : (⟨b, o', none⟩ : Addr).add j = ⟨b, o' + j, none⟩ := by unfold Addr.add; split <;> simp_all
      rw [e2]
      obtain ⟨d0, d1, d2⟩ := hc (j / 3) (by omega)
      obtain ⟨c0, c1, c2⟩ := ppCells_at l (j / 3) (by omega)
      have e3 : j = j / 3 * 3 ∨ j = j / 3 * 3 + 1 ∨ j = j / 3 * 3 + 2 := by omega
      rcases e3 with e3 | e3 | e3
      · rw [← e3] at c0 d0; rw [d0, ← c0]; exact hj
      · rw [← e3] at c1; rw [show o' + j = o' + j / 3 * 3 + 1 by omega, d1, ← c1]; exact hj
      · rw [← e3] at c2; rw [show o' + j = o' + j / 3 * 3 + 2 by omega, d2, ← c2]; exact hj
    · intro u hu
      unfold ppCells at hu
      obtain ⟨y, _, hy⟩ := List.mem_flatMap.1 hu
      simp only [List.mem_cons, List.not_mem_nil, or_false] at hy
      rcases hy with rfl | rfl | rfl <;> rfl
    · unfold maxLen; omega
    · omega
    · intro v' w' ho' hg hnn
      rw [Nat.zero_add] at ho'
      obtain ⟨g, cap, rfl⟩ : ∃ g cap, v' = .slice (some ⟨g, 0, none⟩) n cap := by
        rcases ho'.2 with ⟨e, h0⟩ | ⟨g, cap, cur, hv, _⟩
        · have := (hnn.1 e).1; cases this
        · exact ⟨g, cap, hv⟩
      have ho2 : w'.ownsRow B 36 3 (.slice (some ⟨g, 0, none⟩) n cap) n (ppCells l) := ho'
      obtain ⟨r1, r2, r3, r4⟩ := owns_rowP ho2 hn.symm
      exact h g cap w' r1 r2 r3 r4 (below_grownP hown hB hg)
end Go.Proofs.Ytkgdmlfdlkmojaa
