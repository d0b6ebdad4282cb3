/-
  A row of nodes that grows by nodes without kids, its box lying behind the trees of its nodes.
-/
import Derived.Test.YtccehdlgpbeijaaGreatDoorDrawNode
namespace Go.Proofs.YtccehdlgpbeijaaGreatDoor
open Go.RowKit M
set_option linter.unusedVariables false

theorem Bx.set0 {w : World} {b : Nat} {v0 v1 v2 v3 : Value} (h : Bx w b v0 v1 v2 v3) (v : Value) : Bx (w.setCell ⟨b, 0, none⟩ v) b v v1 v2 v3 :=
  ⟨by simpa using h.lt, World.cell?_setCell_same _ _ _ h.c0, (World.cell?_setCell_other _ _ _ _ (by simp)).trans h.c1, (World.cell?_setCell_other _ _ _ _ (by simp)).trans h.c2, (World.cell?_setCell_other _ _ _ _ (by simp)).trans h.c3, fun k => by rw [World.frozen?_setCell]; exact h.fz k⟩
theorem Bx.set1 {w : World} {b : Nat} {v0 v1 v2 v3 : Value} (h : Bx w b v0 v1 v2 v3) (v : Value) : Bx (w.setCell ⟨b, 1, none⟩ v) b v0 v v2 v3 :=
  ⟨by simpa using h.lt, (World.cell?_setCell_other _ _ _ _ (by simp)).trans h.c0, World.cell?_setCell_same _ _ _ h.c1, (World.cell?_setCell_other _ _ _ _ (by simp)).trans h.c2, (World.cell?_setCell_other _ _ _ _ (by simp)).trans h.c3, fun k => by rw [World.frozen?_setCell]; exact h.fz k⟩

structure GrowM (w : World) (B : Nat) (v : Value) (ts : List NdT) (lo : Nat) : Prop where
  own : w.ownsRow B 26 4 v ts.length (ndCells ts)
  kids : ∃ h : Nat → Nat, B ≤ h 0 ∧ (∀ j, j < ts.length → h j ≤ h (j + 1)) ∧ h ts.length ≤ lo ∧
    ∀ j (hj : j < ts.length), OwnK w ts[j].2.1 ts[j].1.ks (fun x => Ivl (h j) (h (j + 1)) x ∧ some x ≠ v.ownBlock)
theorem GrowK.toM {w : World} {B lo : Nat} {v : Value} {ts : List NdT} (g : GrowK w B v ts lo) : GrowM w B v ts lo := ⟨g.own, g.kids⟩
theorem GrowM.inner {ts : List NdT} {h : Nat → Nat} {lo : Nat} (hm : ∀ j, j < ts.length → h j ≤ h (j + 1)) (hk : h ts.length ≤ lo) (j : Nat) (hj : j < ts.length) {x : Nat} (hx : Ivl (h j) (h (j + 1)) x) : x < lo := by
  have := chainN hm (j + 1) ts.length (by omega) (Nat.le_refl _)
  unfold Ivl at hx
  omega
theorem GrowM.next {w w' : World} {B lo : Nat} {v : Value} {ts : List NdT} (g : GrowM w B v ts lo) (hb : Below w.heap.size w w') (hlo : lo ≤ w.heap.size) : GrowM w' B v ts lo := by
  obtain ⟨h, h0, hm, hk, hj⟩ := g.kids
  refine ⟨⟨g.own.1, ?_⟩, h, h0, hm, hk, fun j hjl => (hj j hjl).stays hb (fun x hx => by have := GrowM.inner hm hk j hjl hx.1; omega)⟩
  rcases g.own.2 with h | ⟨g, cap, cur, e, hB, hh, hr⟩
  · exact .inl h
  · exact .inr ⟨g, cap, cur, e, hB, (hb.block g (Array.getElem?_eq_some_iff.1 hh).1).trans hh, hr⟩
theorem GrowM.grown {w w' : World} {B lo N : Nat} {v : Value} {ts : List NdT} (g : GrowM w B v ts lo) (hg : w.grownBy w' (some N)) (hN : N < B) (hlo : lo ≤ w.heap.size) : GrowM w' B v ts lo := by
  obtain ⟨h, h0, hm, hk, hj⟩ := g.kids
  refine ⟨⟨g.own.1, ?_⟩, h, h0, hm, hk, fun j hjl => (hj j hjl).grown hg (fun x hx => ?_)⟩
  · rcases g.own.2 with h | ⟨g, cap, cur, e, hB, hh, hr⟩
    · exact .inl h
    · exact .inr ⟨g, cap, cur, e, hB, (hg.block g (Array.getElem?_eq_some_iff.1 hh).1 (by simp; omega)).trans hh, hr⟩
  · have h1 := GrowM.inner hm hk j hjl hx.1
    have h2 := chainN hm 0 j (by omega) (by omega)
    have h3 := hx.1
    unfold Ivl at h3
    omega
theorem GrowM.store {w : World} {B lo M k : Nat} {v : Value} {ts : List NdT} (g : GrowM w B v ts lo) (u : Value) (hM : lo ≤ M) (hv : v.ownBlock ≠ some M) : GrowM (w.setCell ⟨M, k, none⟩ u) B v ts lo := by
  obtain ⟨h, h0, hm, hk, hj⟩ := g.kids
  have hb : ∀ i, i ≠ M → (w.setCell ⟨M, k, none⟩ u).heap[i]? = w.heap[i]? := fun i hi => Below.heap_setCell w ⟨M, k, none⟩ u i hi
  refine ⟨⟨g.own.1, ?_⟩, h, h0, hm, hk, fun j hjl => (hj j hjl).setC u (fun x hx => by have := GrowM.inner hm hk j hjl hx.1; omega)⟩
  rcases g.own.2 with h | ⟨g, cap, cur, e, hB, hh, hr⟩
  · exact .inl h
  · exact .inr ⟨g, cap, cur, e, hB, (hb g (fun e2 => hv (by rw [e, ← e2]; rfl))).trans hh, hr⟩
theorem GrowM.slice {w : World} {B lo : Nat} {v : Value} {ts : List NdT} (h : GrowM w B v ts lo) : ∃ a cap, v = .slice a ts.length cap := by
  rcases h.own.2 with ⟨e, h0⟩ | ⟨g, cap, cur, e, _⟩
  · rw [h0]; exact ⟨_, _, e⟩
  · exact ⟨_, _, e⟩
theorem GrowM.done {w : World} {B lo M : Nat} {a : Option Addr} {n cap : Nat} {ts : List NdT} (g : GrowM w B (.slice a n cap) ts lo) (hlo : lo ≤ w.heap.size) (hM : lo ≤ M) (hv : (Value.slice a n cap).ownBlock ≠ some M) : OwnK w a (ts.map (·.1)) (fun x => Ivl B w.heap.size x ∧ x ≠ M) := by
  obtain ⟨h, h0, hm, hk, hj⟩ := g.kids
  have hown := g.own
  rcases g.own.2 with ⟨e, hl⟩ | ⟨b, cap', cur, e, hB, hh, h1, h2, h3, h4⟩
  · have : ts = [] := List.length_eq_zero_iff.1 hl
    subst this
    exact .nil _ _
  · injection e with i1 i2 i3
    subst i1 i2 i3
    have hbl := (Array.getElem?_eq_some_iff.1 hh).1
    refine .row b 0 _ (fun j => if hj : j < ts.length then (ts[j]).2.1 else none) (fun j => if hj : j < ts.length then (ts[j]).2.2 else 0) (fun j x => Ivl (h j) (h (j + 1)) x ∧ x ≠ b) _ ⟨⟨hB, hbl⟩, fun e => hv (by rw [← e]; rfl)⟩ (fun j hjl => ?_) (fun i => ownsRow_frozen hh i) (fun j hjl => ?_) (fun j x hjl hx => ?_) (fun i j x hij hjl hx hy => ?_)
    · have hj' : j < ts.length := by simpa using hjl
      have hx := ndCells_at ts j hj'
      have hl := ndCells_length ts
      simp only [Nat.zero_add, List.getElem_map, hj', dif_pos]
      refine ⟨?_, ?_, ?_, ?_⟩
      · rw [hown.cellAt (j * 4) (by omega)]; exact hx.1
      · rw [hown.cellAt (j * 4 + 1) (by omega)]; exact hx.2.1
      · rw [hown.cellAt (j * 4 + 2) (by omega)]; exact hx.2.2.1
      · rw [hown.cellAt (j * 4 + 3) (by omega)]; exact hx.2.2.2
    · have hj' : j < ts.length := by simpa using hjl
      simp only [List.getElem_map, hj', dif_pos]
      exact (hj j hj').wide (fun x hx => ⟨hx.1, fun e => hx.2 (by rw [e]; rfl)⟩)
    · have hj' : j < ts.length := by simpa using hjl
      have e1 := chainN hm 0 j (Nat.zero_le _) (by omega)
      have e2 := GrowM.inner hm hk j hj' hx.1
      have := hx.1
      unfold Ivl at this ⊢
      exact ⟨⟨⟨by omega, by omega⟩, by omega⟩, hx.2⟩
    · have hj' : j < ts.length := by simpa using hjl
      have e1 := chainN hm (i + 1) j (by omega) (by omega)
      have a1 := hx.1
      have a2 := hy.1
      unfold Ivl at a1 a2
      omega
/-- 'l = append(l, n)', n without kids. -/
theorem wp_append_nodeM {w : World} {ops : Array Oper} {rest : List Oper} {o : Oper} {a : Act} {Q : Exit → Act → World → Prop} (hgd : o.guard = none) (s x : Operand)
    (ho : o.op = .call { callee := .builtin .append, args := #[s, x], argTypes := #[24, 24] })
    (B lo : Nat) (v : Value) (ts : List NdT) (hs : a.eval s = v) (hown : GrowM w B v ts lo)
    (N : Nat) (n : Nd) (hx : a.eval x = .slice (some ⟨N, 0, none⟩) 1 1) (hc0 : w.cell? ⟨N, 0, none⟩ = some (.string n.ns)) (hc1 : w.cell? ⟨N, 1, none⟩ = some (.string n.nm)) (hc2 : w.cell? ⟨N, 2, none⟩ = some (.string n.tx)) (hc3 : w.cell? ⟨N, 3, none⟩ = some (.slice none 0 0)) (hnk : n.ks = [])
    (hlen : ts.length + 1 ≤ 1000000000) (hlo : lo ≤ w.heap.size) (hB : B ≤ w.heap.size)
    (h : ∀ g cap w', GrowM w' B (.slice (some ⟨g, 0, none⟩) (ts.length + 1) cap) (ts ++ [(n, none, 0)]) lo → Below B w w' → w.grownBy w' v.ownBlock → (some g = v.ownBlock ∨ g = w.heap.size) → wpList Tryz.prog ops Q rest (a.put o.dst (.slice (some ⟨g, 0, none⟩) (ts.length + 1) cap)) w') : wpList Tryz.prog ops Q (o :: rest) a w := by
  obtain ⟨i0, hi, hz0, hz1, hz2⟩ := info_parts infoNd
  have hlt := World.ownsRow.lt hown.own
  obtain ⟨hf, h0, hm, hk, hj⟩ := hown.kids
  refine wpList_append_own_at w hgd s x 24 ho B 26 i0 _ 4 72 Tryz.underlying24 hi hz0 hz1 hz2 rfl (by decide) v ts.length _ hs hown.own ⟨N, 0, none⟩ 1 1 [.string n.ns, .string n.nm, .string n.tx, .slice none 0 0] hx rfl ?_ ?_ ?_ ?_ hB ?_
  · intro j u hj
    have e : ∀ k, (⟨N, 0, none⟩ : Addr).add k = ⟨N, k, none⟩ := fun k => by unfold Addr.add; split <;> simp_all
    rw [e]
    match j, hj with
    | 0, hj => simp at hj; subst hj; exact hc0
    | 1, hj => simp at hj; subst hj; exact hc1
    | 2, hj => simp at hj; subst hj; exact hc2
    | 3, hj => simp at hj; subst hj; exact hc3
  · intro u hu
    simp only [List.mem_cons, List.not_mem_nil, or_false] at hu
    rcases hu with rfl | rfl | rfl | rfl <;> rfl
  · unfold maxLen; omega
  · omega
  · intro v' w' ho' hg _ hat
    obtain ⟨g, cap, rfl⟩ : ∃ g cap, v' = .slice (some ⟨g, 0, none⟩) (ts.length + 1) cap := by
      rcases ho'.2 with ⟨_, h0⟩ | ⟨g, cap, cur, hv, _⟩
      · omega
      · exact ⟨g, cap, hv⟩
    have hat' : some g = v.ownBlock ∨ g = w.heap.size := hat.elim .inl (fun e => .inr (Option.some.inj e))
    refine h g cap w' ⟨?_, fun i => if i = ts.length + 1 then hf ts.length else hf i, ?_, ?_, ?_, ?_⟩ ⟨hg.os, hg.tape, hg.output, hg.size, fun k hk => hg.block k (by omega) (fun e => by have := (hlt k e.symm).1; omega)⟩ hg hat'
    · rw [ndCells_append, List.length_append]
      have e : ndCells [(n, (none : Option Addr), 0)] = [.string n.ns, .string n.nm, .string n.tx, .slice none 0 0] := by simp [ndCells, hnk]
      rw [e]
      exact ho'
    · simpa using h0
    · intro j hj'
      rw [List.length_append] at hj'
      simp only [List.length_cons, List.length_nil] at hj'
      by_cases e : j = ts.length
      · subst e
        simp only [show ¬ ts.length = ts.length + 1 by omega, if_false, if_true]
        exact Nat.le_refl _
      · simp only [show ¬ j = ts.length + 1 by omega, show ¬ j + 1 = ts.length + 1 by omega, if_false]
        exact hm j (by omega)
    · rw [List.length_append]
      simp
      exact hk
    · intro j hj'
      rw [List.length_append] at hj'
      simp only [List.length_cons, List.length_nil] at hj'
      by_cases e : j = ts.length
      · subst e
        simp only [List.getElem_append_right (Nat.le_refl _), Nat.sub_self, List.getElem_cons_zero]
        rw [hnk]
        exact .nil _ _
      · have hjl : j < ts.length := by omega
        simp only [List.getElem_append_left hjl, show ¬ j = ts.length + 1 by omega, show ¬ j + 1 = ts.length + 1 by omega, if_false]
        have hS : ∀ x, (Ivl (hf j) (hf (j + 1)) x ∧ some x ≠ v.ownBlock) → x < w.heap.size ∧ some x ≠ v.ownBlock := fun x hx => ⟨by have := GrowM.inner hm hk j hjl hx.1; omega, hx.2⟩
        refine OwnK.wide ((hj j hjl).keep (fun b o hb => by
          have := hg.block b (hS b hb).1 (hS b hb).2
          simp only [World.cell?, this]) (fun b o hb => by
          have := hg.block b (hS b hb).1 (hS b hb).2
          simp only [World.frozen?, this])) (fun x hx => ⟨hx.1, fun e => ?_⟩)
        have e' : x = g := Option.some.inj e
        subst e'
        rcases hat' with e | e
        · exact hx.2 e
        · have := (hS x hx).1; omega
end Go.Proofs.YtccehdlgpbeijaaGreatDoor
