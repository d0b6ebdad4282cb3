/-
  Rows of locks that stay; an element of such a row.
-/
import Derived.Test.YtclnpfpaabmkcabAnyLk
import Derived.Test.YtclnpfpaabmkcabDrawNI
namespace Go.Proofs.Ytclnpfpaabmkcab
open Go.RowKit M
set_option linter.unusedVariables false

theorem rowC_keepN {w w' : World} {lo g c N : Nat} {l : List Lk} (h : RowC w lo g c l) (hz : w.heap.size ≤ w'.heap.size) (e : ∀ y, y < w.heap.size → y ≠ N → w'.heap[y]? = w.heap[y]?) (hN : N < lo) : RowC w' lo g c l := by
  obtain ⟨ts, h1, h2, h3, h4, h5⟩ := h
  have hg := e g h2.1 (by omega)
  refine ⟨ts, h1, h2.hp hz hg, fun t ht => ?_, h4, OwnT.keepB h5 hg⟩
  obtain ⟨p, a1, a2, a3, a4, a5⟩ := h3 t ht
  exact ⟨p, a1, a2.hp hz (e p a2.1 (by omega)), a3, a4, a5⟩
theorem boxV_keep {w w' : World} {N : Nat} {vs : List Value} (h : BoxV w N vs) (hz : w.heap.size ≤ w'.heap.size) (e : w'.heap[N]? = w.heap[N]?) : BoxV w' N vs :=
  ⟨Nat.lt_of_lt_of_le h.1 hz, fun i v hv => by
    have := h.2 i v hv
    simp only [World.cell?, World.frozen?, e] at this ⊢
    exact this⟩
/-- A lock that was drawn, in a row of its own. -/
def OneK (w : World) (x : Lk) (p m k : Nat) : Prop := 1 ≤ x.tk ∧ x.tk ≤ 9 ∧ Few 3 x.pa ∧ m = x.pa.length ∧ RowS w p x.pa ∧ m ≤ k ∧ k ≤ maxLen
/-- The last of a row. -/
theorem rowC_last {w : World} {lo g c : Nat} {l : List Lk} {x : Lk} (h : RowC w lo g c (l ++ [x])) : ∃ p k, LkAt w g (l.length * 5) x (some ⟨p, 0, none⟩) k ∧ RowS w p x.pa ∧ x.pa.length ≤ k ∧ k ≤ maxLen ∧ lo ≤ p := by
  obtain ⟨ts, h1, h2, h3, h4, h5⟩ := h
  have hl : ts.length = l.length + 1 := by have := congrArg List.length h1; simpa using this
  have hk : l.length < ts.length := by omega
  have hr : ts[l.length].r = x := by
    have := congrArg (fun q => q[l.length]?) h1
    simpa [List.getElem?_eq_getElem hk] using this
  obtain ⟨p, a1, a2, a3, a4, a5, a6⟩ := h3 ts[l.length] (List.getElem_mem hk)
  have hat := h2.2.1 l.length hk
  rw [hr] at a2 a5
  rw [hr, a1] at hat
  exact ⟨p, _, hat, a2, a5, a6, a4⟩
/-- Any of a row. -/
theorem rowC_at {w : World} {lo g c : Nat} {l : List Lk} (h : RowC w lo g c l) (i : Nat) (hi : i < l.length) : ∃ p k, LkAt w g (i * 5) l[i] (some ⟨p, 0, none⟩) k ∧ RowS w p l[i].pa ∧ l[i].pa.length ≤ k ∧ k ≤ maxLen ∧ lo ≤ p := by
  obtain ⟨ts, h1, h2, h3, h4, h5⟩ := h
  subst h1
  have hk : i < ts.length := by simpa using hi
  obtain ⟨p, a1, a2, a3, a4, a5, a6⟩ := h3 ts[i] (List.getElem_mem hk)
  have hat := h2.2.1 i hk
  rw [a1] at hat
  simp only [List.getElem_map]
  exact ⟨p, _, hat, a2, a5, a6, a4⟩
end Go.Proofs.Ytclnpfpaabmkcab
