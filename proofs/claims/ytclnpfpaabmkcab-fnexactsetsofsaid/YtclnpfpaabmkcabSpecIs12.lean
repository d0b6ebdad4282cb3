/-
  What spec.l12Is says; a node's box as it stands; one more set behind, and what stays.
-/
import Derived.Test.YtclnpfpaabmkcabSetsInT
namespace Go.Proofs.Ytclnpfpaabmkcab
open Go.RowKit M
set_option linter.unusedVariables false
set_option maxHeartbeats 2000000 in
theorem is12_any (y : ByteArray) (n : Nd) (a : Option Addr) (m c : Nat) (w : World) :
    Calls Try.prog 74 #[.agg #[.string n.ns, .string n.nm, .string n.tx, .slice a m c], .string y] w fun e w' => e = .returned (.bool (isD y n)) ∧ Below w.heap.size w w' := by
  have HB := hide ((Below.refl w.heap.size w).alloc (Nat.le_refl _) (Obj.cells #[.string n.ns, .string n.nm, .string n.tx, .slice a m c] 59))
  have hdv : davT.toList = [68, 65, 86, 58] := by kernel_rfl
  by_cases t1 : n.ns.toList = [68, 65, 86, 58]
  · rw [← isD_text, hdv, t1]
    have d1 : (n.ns.toList == [68, 65, 86, 58]) = true := by simp [t1]
    rw [show (([68, 65, 86, 58] : List UInt8) == [68, 65, 86, 58]) = true from rfl, Bool.true_and]
    clear hdv
    go_enter Try.func74, Try.ntmps74
    go_wp2
    go_ret
    exact ⟨rfl, HB.out⟩
  · rw [isD_no1 y (by rw [hdv]; exact t1)]
    have d1 : (n.ns.toList == [68, 65, 86, 58]) = false := beq_eq_false_iff_ne.2 t1
    clear hdv
    go_enter Try.func74, Try.ntmps74
    go_wp2
    go_ret
    exact ⟨rfl, HB.out⟩
/-- A node's box. -/
def NB (W : World) (b : Nat) (x y z : ByteArray) (a : Option Addr) (n c : Nat) : Prop := W.heap[b]? = some (Obj.cells #[.string x, .string y, .string z, .slice a n c] 59)
theorem NB.made (W : World) (x y z : ByteArray) (a : Option Addr) (n c : Nat) : NB (W.alloc (Obj.cells #[.string x, .string y, .string z, .slice a n c] 59)) W.heap.size x y z a n c := heap_alloc_new W _
theorem NB.lt {W : World} {b : Nat} {x y z : ByteArray} {a : Option Addr} {n c : Nat} (h : NB W b x y z a n c) : b < W.heap.size := by
  unfold NB at h
  exact (Array.getElem?_eq_some_iff.1 h).1
theorem NB.kb {W : World} {b : Nat} {x y z : ByteArray} {a : Option Addr} {n c : Nat} (h : NB W b x y z a n c) : KB W b x y z a n c := by
  unfold NB at h
  unfold KB
  simp [World.cell?, h]
theorem NB.below {W w1 : World} {b : Nat} {x y z : ByteArray} {a : Option Addr} {n c : Nat} (h : NB W b x y z a n c) (hb : Below W.heap.size W w1) : NB w1 b x y z a n c := by
  have hl := h.lt
  unfold NB at *
  rw [hb.block b hl]; exact h
theorem NB.grown {W w1 : World} {b g : Nat} {x y z : ByteArray} {a : Option Addr} {n c : Nat} (h : NB W b x y z a n c) (hg : W.grownBy w1 (some g)) (hne : g ≠ b) : NB w1 b x y z a n c := by
  have hl := h.lt
  unfold NB at *
  rw [hg.block b hl (fun e => hne (Option.some.inj e).symm)]; exact h
theorem NB.ne {W : World} {b B g n' c' : Nat} {x y z : ByteArray} {a : Option Addr} {n c : Nat} {l : List Sx} (h : NB W b x y z a n c) (ho : OwnV W B (.slice (some ⟨g, 0, none⟩) n' c') l) : g ≠ b := by
  rintro rfl
  rcases ho.2 with ⟨e, _⟩ | ⟨g', c', cur, e, hB, hh, _⟩
  · cases e
  · cases e
    unfold NB at h
    rw [h] at hh
    cases hh
/-- 'l = append(l, s)' on a row that the call owns, and what stays. -/
theorem wp_append_setG {w : World} {ops : Array Oper} {rest : List Oper} {o : Oper} {a : Act} {Q : Exit → Act → World → Prop} (hgd : o.guard = none) (s x : Operand)
    (ho : o.op = .call { callee := .builtin .append, args := #[s, x], argTypes := #[54, 54] })
    (B g0 n0 c0 : Nat) (l : List Sx) (hs : a.eval s = .slice (some ⟨g0, 0, none⟩) n0 c0) (hown : OwnV w B (.slice (some ⟨g0, 0, none⟩) n0 c0) l)
    (N : Nat) (c : Sx) (hx : a.eval x = .slice (some ⟨N, 0, none⟩) 1 1) (hc0 : w.cell? ⟨N, 0, none⟩ = some (.bool c.1)) (hc1 : w.cell? ⟨N, 1, none⟩ = some (.string c.2.1)) (hc2 : w.cell? ⟨N, 2, none⟩ = some (.string c.2.2.1)) (hc3 : w.cell? ⟨N, 3, none⟩ = some (.string c.2.2.2)) (hlen : l.length + 1 ≤ 1099511627776) (hB : B ≤ w.heap.size)
    (h : ∀ g n cap w', n = (l ++ [c]).length → OwnV w' B (.slice (some ⟨g, 0, none⟩) n cap) (l ++ [c]) → Below B w w' → w.grownBy w' (some g0) → wpList Try.prog ops Q rest (a.put o.dst (.slice (some ⟨g, 0, none⟩) n cap)) w') : wpList Try.prog ops Q (o :: rest) a w := by
  obtain ⟨i0, hi, hz0, hz1, hz2⟩ := info_parts info_set
  refine wpList_append_own w hgd s x 54 ho B 93 i0 _ 4 56 Try.underlying54 hi hz0 hz1 hz2 rfl (by decide) _ l.length _ hs hown ⟨N, 0, none⟩ 1 1 [.bool c.1, .string c.2.1, .string c.2.2.1, .string c.2.2.2] hx rfl ?_ ?_ ?_ ?_ hB ?_
  · intro j u hj
    have e : ∀ k, (⟨N, 0, none⟩ : Addr).add k = ⟨N, k, none⟩ := fun k => by unfold Addr.add; split <;> simp_all
    rw [e]
    match j, hj with
    | 0, hj => simp at hj; subst hj; exact hc0
    | 1, hj => simp at hj; subst hj; exact hc1
    | 2, hj => simp at hj; subst hj; exact hc2
    | 3, hj => simp at hj; subst hj; exact hc3
  · intro u hu; simp at hu; rcases hu with rfl | rfl | rfl | rfl <;> rfl
  · unfold maxLen; omega
  · omega
  · intro v' w' ho' hg _
    obtain ⟨g, cap, rfl⟩ : ∃ g cap, v' = .slice (some ⟨g, 0, none⟩) (l.length + 1) cap := by
      rcases ho'.2 with ⟨_, h0⟩ | ⟨g, cap, cur, hv, _⟩
      · omega
      · exact ⟨g, cap, hv⟩
    refine h g (l.length + 1) cap w' (by simp) ?_ (below_grownV hown hB hg) hg
    unfold OwnV
    rw [sxCells_append, show (l ++ [c]).length = l.length + 1 by simp]
    exact ho'
/-- More than eight in all. -/
theorem all_over {k h : Nd} {r : List Nd} {acc : List Sx} (hk : k.ks = [h]) (hm : 8 < acc.length + h.ks.length) : allS (k :: r) acc = none := by
  cases e : kidS k with
  | none => exact all_none e
  | some ss =>
    refine all_many e ?_
    unfold kidS at e
    split at e
    · cases e
    · rw [hk] at e
      simp only at e
      split at e
      · cases e
      · split at e
        · have e2 := (Option.some.inj e).symm
          rw [e2, List.length_map]; exact hm
        · cases e
end Go.Proofs.Ytclnpfpaabmkcab
