/-
  'append([]string{}, p...)' of whatever slice of texts.
-/
import Derived.Test.YtclnpfpaabmkcaaDrawNI
import Derived.Test.YtclnpfpaabmkcaaGenPick
namespace Go.Proofs.Ytclnpfpaabmkcaa
open Go.RowKit
set_option linter.unusedVariables false

theorem owns_rowS {w : World} {B g n cap : Nat} {ns : List ByteArray} (h : w.ownsRow B 9 1 (.slice (some ⟨g, 0, none⟩) n cap) n (strCells ns)) (hn : ns.length = n) : RowS w g ns ∧ B ≤ g ∧ n ≤ cap ∧ cap ≤ maxLen := by
  subst hn
  have hlt := h.lt g rfl
  have hcap : ns.length ≤ cap ∧ cap ≤ maxLen := by
    rcases h.2 with ⟨e, _⟩ | ⟨g', cap', cur, hv, _, _, h1, h2, _⟩
    · cases e
    · cases hv; exact ⟨h1, h2⟩
  refine ⟨⟨hlt.2, fun j hj => ⟨?_, h.frozenAt j⟩⟩, hlt.1, hcap.1, hcap.2⟩
  rw [h.cellAt j (by omega)]
  simp [strCells, List.getElem?_eq_getElem hj]

/-- The same texts, in a new row. -/
theorem wp_append_strs {w : World} {ops : Array Oper} {rest : List Oper} {o : Oper} {a : Act} {Q : Exit → Act → World → Prop} (hgd : o.guard = none) (s x : Operand)
    (ho : o.op = .call { callee := .builtin .append, args := #[s, x], argTypes := #[25, 25] })
    (B g0 : Nat) (l : List ByteArray) (n : Nat) (hn : n = l.length) (hs : a.eval s = .slice (some ⟨g0, 0, none⟩) 0 0) (hown : w.ownsRow B 9 1 (.slice (some ⟨g0, 0, none⟩) 0 0) 0 [])
    (C : Nat) (pa : Option Addr) (pc : Nat) (hx : a.eval x = .slice pa n pc) (hst : Strs w C pa l) (hpn : pa = none → pc = 0) (hlen : n ≤ 1099511627776) (hB : B ≤ w.heap.size)
    (h : ∀ g cap w', RowS w' g l → B ≤ g → n ≤ cap → cap ≤ maxLen → Below B w w' → wpList Try.prog ops Q rest (a.put o.dst (.slice (some ⟨g, 0, none⟩) n cap)) w') : wpList Try.prog ops Q (o :: rest) a w := by
  obtain ⟨i0, hi, hz0, hz1, hz2⟩ := info_parts info_str
  cases pa with
  | none =>
    have h0 : n = 0 := by
      rw [hn]
      by_cases e : 0 < l.length
      · obtain ⟨_, _, e', _⟩ := hst e; cases e'
      · omega
    have hl : l = [] := List.length_eq_zero_iff.1 (by omega)
    subst hl h0
    rw [hpn rfl] at hx
    have hr := run_append_owned_none (P := Try.prog) (w := w) B 25 o.type 9 i0 1 Try.underlying25 hi _ _ _ hown
    refine wpList_plain hgd fun K hK => ?_
    unfold Oper.wp execOp
    simp only [ho, resolve, invoke, builtin, Sem.run_bind, Sem.run_pure, Result.andThen_ok, List.map_toArray, List.map_cons, List.map_nil, hs, hx, hr]
    obtain ⟨r1, r2, r3, r4⟩ := owns_rowS (ns := []) (n := 0) hown rfl
    exact hK _ _ (h g0 0 w r1 r2 r3 r4 (Below.refl _ _))
  | some ad =>
    refine wpList_append_own w hgd s x 25 ho B 9 i0 (.string ByteArray.empty) 1 16 Try.underlying25 hi hz0 hz1 hz2 rfl (by decide) _ 0 _ hs hown ad n pc (strCells l) hx (by rw [strCells_length, hn, Nat.mul_one]) ?_ ?_ ?_ ?_ hB ?_
    · intro j u hj
      have hjl : j < l.length := by have := (List.getElem?_eq_some_iff.1 hj).1; rwa [strCells_length] at this
      obtain ⟨b, o', e, _, hc⟩ := hst (by omega)
      have e' : ad = ⟨b, o', none⟩ := by cases e; rfl
      subst e'
      have e2 : (⟨b, o', none⟩ : Addr).add j = ⟨b, o' + j, none⟩ := by unfold Addr.add; split <;> simp_all
      rw [e2, hc j hjl]
      unfold strCells at hj
      rw [List.getElem?_map, List.getElem?_eq_getElem hjl] at hj
      exact hj
    · intro u hu
      unfold strCells at hu
      obtain ⟨y, _, rfl⟩ := List.mem_map.1 hu
      rfl
    · unfold maxLen; omega
    · omega
    · intro v' w' ho' hg hnn
      rw [Nat.zero_add] at ho'
      obtain ⟨g, cap, rfl⟩ : ∃ g cap, v' = .slice (some ⟨g, 0, none⟩) n cap := by
        rcases ho'.2 with ⟨e, h0⟩ | ⟨g, cap, cur, hv, _⟩
        · have := (hnn.1 e).1; cases this
        · exact ⟨g, cap, hv⟩
      have ho2 : w'.ownsRow B 9 1 (.slice (some ⟨g, 0, none⟩) n cap) n (strCells l) := ho'
      obtain ⟨r1, r2, r3, r4⟩ := owns_rowS ho2 hn.symm
      exact h g cap w' r1 r2 r3 r4 (below_grown hown hB hg)
end Go.Proofs.Ytclnpfpaabmkcaa
