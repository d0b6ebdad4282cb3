/-
  Append of a slice of texts onto a row that the call owns, as a step of a drawn region.
-/
import Derived.Test.YtclnpfpaabmkcabSpecPl
import Derived.Deep.RegionHeld3
namespace Go.Proofs.Ytclnpfpaabmkcab
open Go.RowKit
set_option linter.unusedVariables false

theorem run_append_strsO (ty : TypeId) (w : World) (B g0 n0 c0 : Nat) (l : List ByteArray) (hown : w.ownsRow B 9 1 (.slice (some ⟨g0, 0, none⟩) n0 c0) n0 (strCells l)) (C : Nat) (pa : Option Addr) (l2 : List ByteArray) (n pc : Nat) (hn : n = l2.length) (hst : Strs w C pa l2) (hpn : pa = none → pc = 0) (hlen : n0 + n ≤ 1099511627776) (hB : B ≤ w.heap.size) :
    ∃ g cap w', (Builtin.append_ #[24, 24] ty #[.slice (some ⟨g0, 0, none⟩) n0 c0, .slice pa n pc]).run Try.prog w = .ok (.slice (some ⟨g, 0, none⟩) (n0 + n) cap) w' ∧ w'.ownsRow B 9 1 (.slice (some ⟨g, 0, none⟩) (n0 + n) cap) (n0 + n) (strCells (l ++ l2)) ∧ Below B w w' ∧ w.grownBy w' (some g0) := by
  obtain ⟨i0, hi, hz0, hz1, hz2⟩ := info_parts info_str
  have he : strCells (l ++ l2) = strCells l ++ strCells l2 := by simp [strCells]
  cases pa with
  | none =>
    have h0 : n = 0 := by
      rw [hn]
      by_cases e : 0 < l2.length
      · obtain ⟨_, _, e', _⟩ := hst e; cases e'
      · omega
    have hl : l2 = [] := List.length_eq_zero_iff.1 (by omega)
    subst hl h0
    rw [hpn rfl]
    have hr := run_append_owned_none (P := Try.prog) (w := w) B 24 ty 9 i0 1 Try.underlying24 hi _ _ _ hown
    exact ⟨g0, c0, w, hr, by simpa using hown, Below.refl _ _, ⟨rfl, rfl, rfl, Nat.le_refl _, fun _ _ _ => rfl⟩⟩
  | some ad =>
    obtain ⟨v', w', hr, ho', hg, hnn⟩ := run_append_own (P := Try.prog) (w := w) B 24 ty 9 i0 (.string ByteArray.empty) 1 16 Try.underlying24 hi hz0 hz1 hz2 rfl (by decide) _ n0 _ hown ad n pc (strCells l2) (by rw [strCells_length, hn, Nat.mul_one]) (fun j u hj => by
      have hjl : j < l2.length := by have := (List.getElem?_eq_some_iff.1 hj).1; rwa [strCells_length] at this
      obtain ⟨b, o', e, _, hc⟩ := hst (by omega)
      have e' : ad = ⟨b, o', none⟩ := by cases e; rfl
      subst e'
      have e2 : (⟨b, o', none⟩ : Addr).add j = ⟨b, o' + j, none⟩ := by unfold Addr.add; split <;> simp_all
      rw [e2, hc j hjl]
      unfold strCells at hj
      rw [List.getElem?_map, List.getElem?_eq_getElem hjl] at hj
      exact hj) (fun u hu => by
      unfold strCells at hu
      obtain ⟨y, _, rfl⟩ := List.mem_map.1 hu
      rfl) (by unfold maxLen; omega) (by omega) hB
    obtain ⟨g, cap, rfl⟩ : ∃ g cap, v' = .slice (some ⟨g, 0, none⟩) (n0 + n) cap := by
      rcases ho'.2 with ⟨e, h0⟩ | ⟨g, cap, cur, hv, _⟩
      · have := (hnn.1 e).1; cases this
      · exact ⟨g, cap, hv⟩
    exact ⟨g, cap, w', hr, by rw [he]; exact ho', below_grown hown hB hg, hg⟩
theorem step_append_strsO {ops : Array Oper} {o : Oper} {a : Act} {w : World} {K : Act → World → Prop} {Q : Exit → Act → World → Prop} {E : Prop} (hgd : o.guard = none) (s x : Operand)
    (ho : o.op = .call { callee := .builtin .append, args := #[s, x], argTypes := #[24, 24] })
    (B g0 n0 c0 : Nat) (l : List ByteArray) (hs : a.eval s = .slice (some ⟨g0, 0, none⟩) n0 c0) (hown : w.ownsRow B 9 1 (.slice (some ⟨g0, 0, none⟩) n0 c0) n0 (strCells l)) (C : Nat) (pa : Option Addr) (l2 : List ByteArray) (n pc : Nat) (hn : n = l2.length) (hx : a.eval x = .slice pa n pc) (hst : Strs w C pa l2) (hpn : pa = none → pc = 0) (hlen : n0 + n ≤ 1099511627776) (hB : B ≤ w.heap.size)
    (h : ∀ g cap m w', m = (l ++ l2).length → w'.ownsRow B 9 1 (.slice (some ⟨g, 0, none⟩) m cap) m (strCells (l ++ l2)) → Below B w w' → w.grownBy w' (some g0) → K (a.put o.dst (.slice (some ⟨g, 0, none⟩) m cap)) w') :
    if Region.wanted o (yielded ops a.tmps) = true then Oper.wp Try.prog o a w K Q else E := by
  have hw : Region.wanted o (yielded ops a.tmps) = true := by simp [Region.wanted, hgd]
  rw [if_pos hw]
  obtain ⟨g, cap, w', hr, r1, r2, r3⟩ := run_append_strsO o.type w B g0 n0 c0 l hown C pa l2 n pc hn hst hpn hlen hB
  unfold Oper.wp execOp
  simp only [ho, resolve, invoke, builtin, Sem.run_bind, Sem.run_pure, Result.andThen_ok, List.map_toArray, List.map_cons, List.map_nil, hs, hx, hr]
  have hm : n0 + n = (l ++ l2).length := by
    have h1 := r1.1
    rw [strCells_length] at h1
    omega
  exact h g cap (n0 + n) w' hm r1 r2 r3
end Go.Proofs.Ytclnpfpaabmkcab
