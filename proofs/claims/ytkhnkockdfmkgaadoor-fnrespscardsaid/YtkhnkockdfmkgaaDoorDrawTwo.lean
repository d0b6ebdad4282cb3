/-
  Of two one is drawn; 'append' of the heads of another row onto an empty one.
-/
import Derived.Test.YtkhnkockdfmkgaaDoorStepHead
import Derived.Test.YtkhnkockdfmkgaaDoorAllOf
import Derived.Test.YtkhnkockdfmkgaaDoorDrawO
import Derived.Laws.IdiomStrings
import Derived.Deep.OwnRows
namespace Go.Proofs.YtkhnkockdfmkgaaDoor
open Go.RowKit M
set_option linter.unusedVariables false

theorem onceX {w : World} {N : Nat} {a : Option Addr} {len cap : Nat} {zs : List Int} (h : DX w N a len cap zs) :
    Calls Tryd.prog 29 #[.pointer (some ⟨N, 0, none⟩), .int .i64 2] w fun e w' => (∃ b : Bool, e = .returned (.bool b)) ∧ DX w' N a len cap zs ∧ w.grownBy w' (some N) := by
  obtain ⟨c, h⟩ := h
  refine (l1Once_any N a len cap zs c 2 w h.cur h.code h.bN h.hlen (by decide) (by decide)).mono ?_
  rintro e w1 ⟨rfl, hc1, hg1⟩
  exact ⟨⟨_, rfl⟩, ⟨_, h.grown hg1 hc1⟩, hg1⟩
set_option maxRecDepth 100000 in
/-- 'append' of the heads of another row onto an empty one. -/
theorem wp_append_heads {ops : Array Oper} {rest : List Oper} {o : Oper} {a : Act} {W : World} {Q : Exit → Act → World → Prop} (hg : o.guard = none) (s x : Operand)
    (ho : o.op = .call { callee := .builtin .append, args := #[s, x], argTypes := #[24, 24] })
    (B b g n c : Nat) (l : List Hd) (hs : a.eval s = .slice (some ⟨b, 0, none⟩) 0 0) (hown : W.ownsRow B 42 2 (.slice (some ⟨b, 0, none⟩) 0 0) 0 (hdCells []))
    (hx : a.eval x = .slice (some ⟨g, 0, none⟩) n c) (hn : n = l.length) (hh : Hds W W.heap.size (some ⟨g, 0, none⟩) l) (hlen : n ≤ 1048576) (hB : B ≤ W.heap.size)
    (hK : ∀ g' c' w', w'.ownsRow B 42 2 (.slice (some ⟨g', 0, none⟩) n c') n (hdCells l) → W.grownBy w' (some b) → wpList Tryd.prog ops Q rest (a.put o.dst (.slice (some ⟨g', 0, none⟩) n c')) w') : wpList Tryd.prog ops Q (o :: rest) a W := by
  obtain ⟨i0, hi, hz0, hz1, hz2⟩ := info_parts infoHd
  refine wpList_append_own W hg s x 24 ho B 42 i0 _ 2 32 Tryd.underlying24 hi hz0 hz1 hz2 rfl (by decide) _ 0 _ hs hown ⟨g, 0, none⟩ n c (hdCells l) hx (by rw [hdCells_length, hn]) ?_ ?_ ?_ ?_ hB ?_
  · intro j u hj
    have e : ∀ k, (⟨g, 0, none⟩ : Addr).add k = ⟨g, k, none⟩ := fun k => by unfold Addr.add; split <;> simp_all
    rw [e]
    have hjl : j < l.length * 2 := by rw [← hdCells_length]; exact (List.getElem?_eq_some_iff.1 hj).1
    obtain ⟨b', o', hb', _, hc⟩ := hh (by omega)
    cases hb'
    have hq := hdCells_at l (j / 2) (by omega)
    have hc2 := hc (j / 2) (by omega)
    have e2 : j = j / 2 * 2 ∨ j = j / 2 * 2 + 1 := by omega
    rcases e2 with e2 | e2 <;> rw [e2] at hj ⊢
    · rw [hq.1] at hj; injection hj with hj; subst hj; rw [Nat.zero_add] at hc2; exact hc2.1
    · rw [hq.2] at hj; injection hj with hj; subst hj; rw [Nat.zero_add] at hc2; exact hc2.2
  · intro u hu
    simp only [hdCells, List.mem_flatMap] at hu
    obtain ⟨h, _, hu⟩ := hu
    simp at hu; rcases hu with rfl | rfl <;> rfl
  · unfold maxLen; omega
  · omega
  · intro v' w' ho' hg' hnn
    rw [Nat.zero_add] at ho'
    obtain ⟨g', c', rfl⟩ : ∃ g' c', v' = .slice (some ⟨g', 0, none⟩) n c' := by
      rcases ho'.2 with ⟨hv, h0⟩ | ⟨g, cap, cur, hv, _⟩
      · have := hnn.1 hv; simp at this
      · exact ⟨g, cap, hv⟩
    exact hK g' c' w' ho' hg'

theorem hdsD {X : World} {a : Option Addr} {hs : List Hd} (h : Hds X X.heap.size a hs) : Hds X.drew X.drew.heap.size a hs := h
end Go.Proofs.YtkhnkockdfmkgaaDoor
