/-
  Rows of texts that the call itself made: one more behind, one taken away, what it hands on.
-/
import Derived.Test.YtackgogcpdbnlabGenPick
import Derived.Test.YtackgogcpdbnlabOwnBytes
import Derived.WalkSmall
import Derived.Laws.OwnMore
namespace Go.Proofs.Ytackgogcpdbnlab
open Go.RowKit
set_option linter.unusedVariables false

def strCells (ss : List ByteArray) : List Value := ss.map Value.string
theorem strCells_length (ss : List ByteArray) : (strCells ss).length = ss.length := by simp [strCells]
theorem strCells_append (ss tt : List ByteArray) : strCells (ss ++ tt) = strCells ss ++ strCells tt := by simp [strCells]

/-- A row that the call owns stays where only new memory is laid. -/
theorem owns_below {B : Nat} {e : TypeId} {v : Value} {n : Nat} {xs : List Value} {w w' : World} (h : w.ownsRow B e 1 v n xs) (hb : Below w.heap.size w w') : w'.ownsRow B e 1 v n xs :=
  h.kept (row := none) ⟨hb.os, hb.tape, hb.output, hb.size, fun k hk _ => hb.block k hk⟩ (Classical.em _)

/-- 'l = append(l, s)' on a row of texts that the call owns. -/
theorem wp_append_str {w : World} {ops : Array Oper} {rest : List Oper} {o : Oper} {a : Act} {Q : Exit → Act → World → Prop} (hgd : o.guard = none) (s x : Operand)
    (ho : o.op = .call { callee := .builtin .append, args := #[s, x], argTypes := #[23, 23] })
    (B : Nat) (v : Value) (n : Nat) (l : List ByteArray) (hs : a.eval s = v) (hown : w.ownsRow B 9 1 v n (strCells l))
    (ad : Addr) (c : ByteArray) (hx : a.eval x = .slice (some ad) 1 1) (hcell : w.cell? ad = some (.string c)) (hlen : n + 1 ≤ 1099511627776) (hB : B ≤ w.heap.size)
    (h : ∀ g cap w', w'.ownsRow B 9 1 (.slice (some ⟨g, 0, none⟩) (n + 1) cap) (n + 1) (strCells (l ++ [c])) → Below B w w' → wpList Try.prog ops Q rest (a.put o.dst (.slice (some ⟨g, 0, none⟩) (n + 1) cap)) w') : wpList Try.prog ops Q (o :: rest) a w := by
  obtain ⟨i0, hi, hz0, hz1, hz2⟩ := info_parts info_str
  refine wpList_append_own w hgd s x 23 ho B 9 i0 (.string ByteArray.empty) 1 16 Try.underlying23 hi hz0 hz1 hz2 rfl (by decide) v n _ hs hown ad 1 1 [.string c] hx rfl ?_ ?_ ?_ ?_ hB ?_
  · intro j u hj
    match j, hj with
    | 0, hj =>
      simp at hj; subst hj
      have : ad.add 0 = ad := by unfold Addr.add; split <;> simp_all
      rw [this]; exact hcell
  · intro u hu; simp at hu; subst hu; rfl
  · unfold maxLen; omega
  · omega
  · intro v' w' ho' hg _
    obtain ⟨g, cap, rfl⟩ : ∃ g cap, v' = .slice (some ⟨g, 0, none⟩) (n + 1) cap := by
      rcases ho'.2 with ⟨_, h0⟩ | ⟨g, cap, cur, hv, _⟩
      · omega
      · exact ⟨g, cap, hv⟩
    refine h g cap w' ?_ (below_grown hown hB hg)
    rw [strCells_append]
    exact ho'

/-- A new row of texts, in a block from B on, none of them frozen. -/
def OwnS (w : World) (B : Nat) (v : Value) (ns : List ByteArray) : Prop :=
  ∃ g cap, v = .slice (some ⟨g, 0, none⟩) ns.length cap ∧ ns.length ≤ cap ∧ cap ≤ maxLen ∧ B ≤ g ∧ g < w.heap.size ∧ ∀ j (hj : j < ns.length), w.cell? ⟨g, j, none⟩ = some (.string ns[j]) ∧ w.frozen? ⟨g, j, none⟩ = false

theorem OwnS.of {w : World} {B g n cap : Nat} {ns : List ByteArray} (h : w.ownsRow B 9 1 (.slice (some ⟨g, 0, none⟩) n cap) n (strCells ns)) (hn : ns.length = n) : OwnS w B (.slice (some ⟨g, 0, none⟩) n cap) ns := by
  subst hn
  have hlt := h.lt g rfl
  have hcap : ns.length ≤ cap ∧ cap ≤ maxLen := by
    rcases h.2 with ⟨e, _⟩ | ⟨g', cap', cur, hv, _, _, h1, h2, _⟩
    · cases e
    · cases hv; exact ⟨h1, h2⟩
  refine ⟨g, cap, rfl, hcap.1, hcap.2, hlt.1, hlt.2, fun j hj => ⟨?_, h.frozenAt j⟩⟩
  rw [h.cellAt j (by omega)]
  simp [strCells, List.getElem?_eq_getElem hj]

/-- .. cut at its length. -/
theorem OwnS.clip {w : World} {B g n cap : Nat} {ns : List ByteArray} (h : OwnS w B (.slice (some ⟨g, 0, none⟩) n cap) ns) : OwnS w B (.slice (some ⟨g, 0, none⟩) n n) ns := by
  obtain ⟨g', cap', hv, h1, h2, h3, h4, h5⟩ := h
  cases hv
  exact ⟨g, ns.length, rfl, Nat.le_refl _, Nat.le_trans h1 h2, h3, h4, h5⟩

theorem OwnS.strs {w : World} {B C : Nat} {a : Option Addr} {n cap : Nat} {ns : List ByteArray} (h : OwnS w B (.slice a n cap) ns) (hC : w.heap.size ≤ C) : Strs w C a ns := fun h0 => by
  obtain ⟨g, cap', hv, _, _, _, h4, h5⟩ := h
  cases hv
  exact ⟨g, 0, rfl, by omega, fun j hj => by rw [Nat.zero_add]; exact (h5 j hj).1⟩

theorem OwnS.below {w w' : World} {B : Nat} {v : Value} {ns : List ByteArray} (h : OwnS w B v ns) (hb : Below w.heap.size w w') : OwnS w' B v ns := by
  obtain ⟨g, cap, hv, h1, h2, h3, h4, h5⟩ := h
  refine ⟨g, cap, hv, h1, h2, h3, Nat.lt_of_lt_of_le h4 hb.size, fun j hj => ?_⟩
  rw [hb.cell (p := ⟨g, j, none⟩) h4, hb.frozen (p := ⟨g, j, none⟩) h4]
  exact h5 j hj

theorem OwnS.made (w : World) (B : Nat) (hB : B ≤ w.heap.size) (cs : Array Value) (T : TypeId) : OwnS (w.alloc (.cells cs T)) B (.slice (some ⟨w.heap.size, 0, none⟩) 0 0) [] :=
  ⟨w.heap.size, 0, rfl, Nat.le_refl _, Nat.zero_le _, hB, by simp, fun j hj => absurd hj (Nat.not_lt_zero _)⟩
end Go.Proofs.Ytackgogcpdbnlab
