/-
  Rows of nodes that the call owns and that grow: one more behind, and what they hold.
-/
import Derived.Test.YtkgdmlfdlkmojaaOwnNode
import Derived.Lib.BufferWrite
import Derived.Maps.AppendAt
namespace Go.Proofs.Ytkgdmlfdlkmojaa
open Go.RowKit M
set_option linter.unusedVariables false

/-- A node, with where its kids lie. -/
abbrev NdT := Nd × Option Addr × Nat
def ndCells (ts : List NdT) : List Value := ts.flatMap fun t => [.string t.1.ns, .string t.1.nm, .string t.1.tx, .slice t.2.1 t.1.ks.length t.2.2]
theorem ndCells_length (ts : List NdT) : (ndCells ts).length = ts.length * 4 := by
  induction ts with
  | nil => rfl
  | cons h r ih => simp only [ndCells, List.flatMap_cons, List.length_append, List.length_cons, List.length_nil] at *; omega
theorem ndCells_append (ps ts : List NdT) : ndCells (ps ++ ts) = ndCells ps ++ ndCells ts := by simp [ndCells]
theorem ndCells_at (ts : List NdT) : ∀ j (hj : j < ts.length), (ndCells ts)[j * 4]? = some (.string ts[j].1.ns) ∧ (ndCells ts)[j * 4 + 1]? = some (.string ts[j].1.nm) ∧ (ndCells ts)[j * 4 + 2]? = some (.string ts[j].1.tx) ∧ (ndCells ts)[j * 4 + 3]? = some (.slice ts[j].2.1 ts[j].1.ks.length ts[j].2.2) := by
  induction ts with
  | nil => intro j hj; cases hj
  | cons h r ih =>
    intro j hj
    have e : ndCells (h :: r) = .string h.1.ns :: .string h.1.nm :: .string h.1.tx :: .slice h.2.1 h.1.ks.length h.2.2 :: ndCells r := rfl
    rw [e]
    cases j with
    | zero => exact ⟨rfl, rfl, rfl, rfl⟩
    | succ j =>
      have h1 := ih j (by simpa using hj)
      have e1 : (j + 1) * 4 = j * 4 + 1 + 1 + 1 + 1 := by omega
      have e2 : (j + 1) * 4 + 1 = j * 4 + 1 + 1 + 1 + 1 + 1 := by omega
      have e3 : (j + 1) * 4 + 2 = j * 4 + 2 + 1 + 1 + 1 + 1 := by omega
      have e4 : (j + 1) * 4 + 3 = j * 4 + 3 + 1 + 1 + 1 + 1 := by omega
      rw [e2, e3, e4, e1]
      simp only [List.getElem?_cons_succ, List.getElem_cons_succ]
      exact h1

theorem infoNd : (Try.prog.info? 58).map (fun i => (i.zero, i.size, i.bytes)) = some (some (.agg #[.string ByteArray.empty, .string ByteArray.empty, .string ByteArray.empty, .slice none 0 0]), 4, 72) := by kernel_rfl

theorem chainN {h : Nat → Nat} {k : Nat} (hm : ∀ j, j < k → h j ≤ h (j + 1)) : ∀ i j, i ≤ j → j ≤ k → h i ≤ h j := by
  intro i j hij
  induction j with
  | zero => intro _; have : i = 0 := by omega
            subst this; exact Nat.le_refl _
  | succ j ih =>
    intro hj
    by_cases e : i = j + 1
    · subst e; exact Nat.le_refl _
    · exact Nat.le_trans (ih (by omega) (by omega)) (hm j (by omega))

/-- A growing row: it is the call's own from B on, and so are the trees of its nodes, each in blocks of its own. -/
structure GrowK (w : World) (B : Nat) (v : Value) (ts : List NdT) (lo : Nat) : Prop where
  own : w.ownsRow B 58 4 v ts.length (ndCells ts)
  blk : ∀ b, v.ownBlock = some b → b < lo
  top : lo ≤ w.heap.size
  kids : ∃ h : Nat → Nat, B ≤ h 0 ∧ (∀ j, j < ts.length → h j ≤ h (j + 1)) ∧ h ts.length ≤ lo ∧
    ∀ j (hj : j < ts.length), OwnK w ts[j].2.1 ts[j].1.ks (fun x => Ivl (h j) (h (j + 1)) x ∧ some x ≠ v.ownBlock)

theorem GrowK.nil (w : World) (B : Nat) (hB : B ≤ w.heap.size) : GrowK w B (.slice none 0 0) [] w.heap.size :=
  ⟨World.ownsRow_nil w B 58 4, (fun b h => by cases h), Nat.le_refl _, fun _ => w.heap.size, hB, fun _ _ => Nat.le_refl _, Nat.le_refl _, fun j hj => absurd hj (Nat.not_lt_zero _)⟩
theorem GrowK.made (w : World) (B : Nat) (hB : B ≤ w.heap.size) : GrowK (w.alloc (Obj.cells #[] 58)) B (.slice (some ⟨w.heap.size, 0, none⟩) 0 0) [] (w.heap.size + 1) :=
  ⟨⟨rfl, .inr ⟨w.heap.size, 0, #[], rfl, hB, heap_alloc_new w _, Nat.le_refl _, Nat.zero_le _, rfl, rfl⟩⟩, (fun b h => by cases h; exact Nat.lt_succ_self _), by simp, fun _ => w.heap.size, hB, fun _ _ => Nat.le_refl _, Nat.le_succ _, fun j hj => absurd hj (Nat.not_lt_zero _)⟩
theorem GrowK.next {w w' : World} {B lo : Nat} {v : Value} {ts : List NdT} (g : GrowK w B v ts lo) (hb : Below w.heap.size w w') : GrowK w' B v ts lo := by
  obtain ⟨h, h0, hm, hk, hj⟩ := g.kids
  have ht := g.top
  refine ⟨⟨g.own.1, ?_⟩, g.blk, Nat.le_trans ht hb.size, h, h0, hm, hk, fun j hjl => (hj j hjl).stays hb (fun x hx => ?_)⟩
  · rcases g.own.2 with h | ⟨g, cap, cur, e, hB, hh, hr⟩
    · exact .inl h
    · exact .inr ⟨g, cap, cur, e, hB, (hb.block g (Array.getElem?_eq_some_iff.1 hh).1).trans hh, hr⟩
  · have := chainN hm (j + 1) ts.length (by omega) (Nat.le_refl _)
    have := hx.1.2
    omega
theorem GrowK.up {w : World} {B lo lo' : Nat} {v : Value} {ts : List NdT} (g : GrowK w B v ts lo) (h1 : lo ≤ lo') (h2 : lo' ≤ w.heap.size) : GrowK w B v ts lo' := by
  obtain ⟨h, h0, hm, hk, hj⟩ := g.kids
  exact ⟨g.own, fun b hb => Nat.lt_of_lt_of_le (g.blk b hb) h1, h2, h, h0, hm, Nat.le_trans hk h1, hj⟩
theorem GrowK.slice {w : World} {B lo : Nat} {v : Value} {ts : List NdT} (h : GrowK w B v ts lo) : ∃ a cap, v = .slice a ts.length cap := by
  rcases h.own.2 with ⟨e, h0⟩ | ⟨g, cap, cur, e, _⟩
  · rw [h0]; exact ⟨_, _, e⟩
  · exact ⟨_, _, e⟩
/-- A store in a block that is not the call's own, and in none of its rows. -/
theorem GrowK.store {w : World} {B lo : Nat} {v : Value} {ts : List NdT} (g : GrowK w B v ts lo) (p : Addr) (u : Value) (hp : p.block < B) : GrowK (w.setCell p u) B v ts lo := by
  obtain ⟨h, h0, hm, hk, hj⟩ := g.kids
  have hb : ∀ i, i ≠ p.block → (w.setCell p u).heap[i]? = w.heap[i]? := fun i hi => Below.heap_setCell w p u i hi
  refine ⟨⟨g.own.1, ?_⟩, g.blk, by simpa using g.top, h, h0, hm, hk, fun j hjl => (hj j hjl).setCell p u (fun hx => ?_)⟩
  · rcases g.own.2 with h | ⟨g, cap, cur, e, hB, hh, hr⟩
    · exact .inl h
    · exact .inr ⟨g, cap, cur, e, hB, (hb g (by omega)).trans hh, hr⟩
  · have := chainN hm 0 j (by omega) (by omega)
    have := hx.1.1
    omega

theorem ownsRow_frozen {w : World} {g : Nat} {cur : Array Value} {e : TypeId} (hh : w.heap[g]? = some (.cells cur e (0, 0))) (i : Nat) : w.frozen? ⟨g, i, none⟩ = false := by
  simp only [World.frozen?, hh, Bool.and_eq_false_iff, decide_eq_false_iff_not]
  right
  omega

/-- What was made is a tree of blocks of its own. -/
theorem GrowK.done {w : World} {B lo : Nat} {v : Value} {ts : List NdT} (g : GrowK w B v ts lo) : ∃ a cap, v = .slice a ts.length cap ∧ OwnK w a (ts.map (·.1)) (Ivl B w.heap.size) := by
  obtain ⟨h, h0, hm, hk, hj⟩ := g.kids
  have ht := g.top
  have hown := g.own
  rcases g.own.2 with ⟨e, hl⟩ | ⟨b, cap, cur, rfl, hB, hh, h1, h2, h3, h4⟩
  · have : ts = [] := List.length_eq_zero_iff.1 hl
    subst this
    exact ⟨none, 0, e, .nil _ _⟩
  · refine ⟨_, _, rfl, .row b 0 _ (fun j => if hj : j < ts.length then (ts[j]).2.1 else none) (fun j => if hj : j < ts.length then (ts[j]).2.2 else 0) (fun j x => Ivl (h j) (h (j + 1)) x ∧ x ≠ b) _ ⟨hB, (Array.getElem?_eq_some_iff.1 hh).1⟩ (fun j hjl => ?_) (fun i => ownsRow_frozen hh i) (fun j hjl => ?_) (fun j x hjl hx => ?_) (fun i j x hij hjl hx hy => ?_)⟩
    · have hj' : j < ts.length := by simpa using hjl
      have hx := ndCells_at ts j hj'
      have hl := ndCells_length ts
      simp only [Nat.zero_add, List.getElem_map, hj', dif_pos]
      refine ⟨?_, ?_, ?_, ?_⟩
      · rw [hown.cellAt (j * 4) (by omega)]; exact hx.1
      · rw [hown.cellAt (j * 4 + 1) (by omega)]; exact hx.2.1
      · rw [hown.cellAt (j * 4 + 2) (by omega)]; exact hx.2.2.1
      · rw [hown.cellAt (j * 4 + 3) (by omega)]; exact hx.2.2.2
    · have hj' : j < ts.length := by simpa using hjl
      simp only [List.getElem_map, hj', dif_pos]
      exact (hj j hj').wide (fun x hx => ⟨hx.1, fun e => hx.2 (by rw [e]; rfl)⟩)
    · have hj' : j < ts.length := by simpa using hjl
      have e1 := chainN hm 0 j (Nat.zero_le _) (by omega)
      have e2 := chainN hm (j + 1) ts.length (by omega) (Nat.le_refl _)
      have := hx.1
      unfold Ivl at this ⊢
      exact ⟨by omega, hx.2⟩
    · have hj' : j < ts.length := by simpa using hjl
      have e1 := chainN hm (i + 1) j (by omega) (by omega)
      have a1 := hx.1
      have a2 := hy.1
      unfold Ivl at a1 a2
      omega

/-- 'l = append(l, n)'. -/
theorem wp_append_node {w : World} {ops : Array Oper} {rest : List Oper} {o : Oper} {a : Act} {Q : Exit → Act → World → Prop} (hgd : o.guard = none) (s x : Operand)
    (ho : o.op = .call { callee := .builtin .append, args := #[s, x], argTypes := #[56, 56] })
    (B lo : Nat) (v : Value) (ts : List NdT) (hs : a.eval s = v) (hown : GrowK w B v ts lo)
    (N : Nat) (n : Nd) (an : Option Addr) (cn : Nat) (hx : a.eval x = .slice (some ⟨N, 0, none⟩) 1 1) (hc0 : w.cell? ⟨N, 0, none⟩ = some (.string n.ns)) (hc1 : w.cell? ⟨N, 1, none⟩ = some (.string n.nm)) (hc2 : w.cell? ⟨N, 2, none⟩ = some (.string n.tx)) (hc3 : w.cell? ⟨N, 3, none⟩ = some (.slice an n.ks.length cn))
    (hlen : ts.length + 1 ≤ 1000000000) (hBl : B ≤ lo) (hkid : OwnK w an n.ks (Ivl lo w.heap.size))
    (h : ∀ g cap w', GrowK w' B (.slice (some ⟨g, 0, none⟩) (ts.length + 1) cap) (ts ++ [(n, an, cn)]) w'.heap.size → Below B w w' → wpList Try.prog ops Q rest (a.put o.dst (.slice (some ⟨g, 0, none⟩) (ts.length + 1) cap)) w') : wpList Try.prog ops Q (o :: rest) a w := by
  obtain ⟨i0, hi, hz0, hz1, hz2⟩ := info_parts infoNd
  have hlt := World.ownsRow.lt hown.own
  obtain ⟨hf, h0, hm, hk, hj⟩ := hown.kids
  have l1 := hown.blk
  have l2 := hown.top
  refine wpList_append_own_at w hgd s x 56 ho B 58 i0 _ 4 72 Try.underlying56 hi hz0 hz1 hz2 rfl (by decide) v ts.length _ hs hown.own ⟨N, 0, none⟩ 1 1 [.string n.ns, .string n.nm, .string n.tx, .slice an n.ks.length cn] hx rfl ?_ ?_ ?_ ?_ (by omega) ?_
  · intro j u hj
    have e : ∀ k, (⟨N, 0, none⟩ : Addr).add k = ⟨N, k, none⟩ := fun k => by unfold Addr.add; split <;> simp_all
    rw [e]
    match j, hj with
    | 0, hj => simp at hj; subst hj; exact hc0
    | 1, hj => simp at hj; subst hj; exact hc1
    | 2, hj => simp at hj; subst hj; exact hc2
    | 3, hj => simp at hj; subst hj; exact hc3
  · intro u hu
    simp only [List.mem_cons, List.not_mem_nil, or_false] at hu
    rcases hu with rfl | rfl | rfl | rfl <;> rfl
  · unfold maxLen; omega
  · omega
  · intro v' w' ho' hg _ hat
    obtain ⟨g, cap, rfl⟩ : ∃ g cap, v' = .slice (some ⟨g, 0, none⟩) (ts.length + 1) cap := by
      rcases ho'.2 with ⟨_, h0⟩ | ⟨g, cap, cur, hv, _⟩
      · omega
      · exact ⟨g, cap, hv⟩
    have hat' : some g = v.ownBlock ∨ some g = some w.heap.size := hat
    have hkeep : ∀ (S : Nat → Prop) (a' : Option Addr) (ks' : List Nd), OwnK w a' ks' S → (∀ x, S x → x < w.heap.size ∧ some x ≠ v.ownBlock) → OwnK w' a' ks' S := fun S a' ks' ho hS =>
      ho.keep (fun b o hb => by
        have := hg.block b (hS b hb).1 (hS b hb).2
        simp only [World.cell?, this]) (fun b o hb => by
        have := hg.block b (hS b hb).1 (hS b hb).2
        simp only [World.frozen?, this])
    refine h g cap w' ⟨?_, fun b hb => ?_, Nat.le_refl _, fun i => if i = ts.length + 1 then w'.heap.size else hf i, ?_, ?_, ?_, ?_⟩ ⟨hg.os, hg.tape, hg.output, hg.size, fun k hk => hg.block k (by omega) (fun e => by have := (hlt k e.symm).1; omega)⟩
    · rw [ndCells_append, List.length_append]
      exact ho'
    · have hgb : g = b := Option.some.inj hb
      have hz := hg.size
      rcases hat' with e | e
      · have := (hlt g e.symm).2; omega
      · rcases ho'.2 with ⟨hv, _⟩ | ⟨g', cap', cur', hv, _, hh, _⟩
        · cases hv
        · cases hv
          have := (Array.getElem?_eq_some_iff.1 hh).1
          omega
    · simpa using h0
    · intro j hj'
      rw [List.length_append] at hj'
      simp only [List.length_cons, List.length_nil] at hj'
      by_cases e : j = ts.length
      · subst e
        simp only [show ¬ ts.length = ts.length + 1 by omega, if_false, if_true]
        have := hg.size
        omega
      · simp only [show ¬ j = ts.length + 1 by omega, show ¬ j + 1 = ts.length + 1 by omega, if_false]
        exact hm j (by omega)
    · simp
    · intro j hj'
      have hj2 : j < ts.length + 1 := by simpa using hj'
      by_cases e : j = ts.length
      · subst e
        simp only [List.getElem_append_right (Nat.le_refl _), Nat.sub_self, List.getElem_cons_zero, show ¬ ts.length = ts.length + 1 by omega, if_false, if_true]
        refine OwnK.wide (hkeep _ _ _ hkid (fun x hx => ⟨hx.2, fun e => ?_⟩)) (fun x hx => ⟨?_, fun e => ?_⟩)
        · have := l1 x e.symm
          have := hx.1
          omega
        · have := hg.size
          unfold Ivl at hx ⊢
          omega
        · rcases hat' with e2 | e2
          · have := l1 x (by rw [← e2]; exact e.symm)
            have := hx.1
            omega
          · have h9 : x = w.heap.size := Option.some.inj (show some x = some w.heap.size from e.trans e2)
            have := hx.2
            omega
      · have hjt : j < ts.length := by omega
        have e2 := chainN hm (j + 1) ts.length (by omega) (Nat.le_refl _)
        simp only [List.getElem_append_left hjt, show ¬ j = ts.length + 1 by omega, show ¬ j + 1 = ts.length + 1 by omega, if_false]
        refine OwnK.wide (hkeep _ _ _ (hj j hjt) (fun x hx => ⟨?_, hx.2⟩)) (fun x hx => ⟨hx.1, fun e => ?_⟩)
        · have := hx.1.2
          omega
        · rcases hat' with e3 | e3
          · exact hx.2 (e.trans e3)
          · have h9 : x = w.heap.size := Option.some.inj (show some x = some w.heap.size from e.trans e3)
            have := hx.1.2
            omega
end Go.Proofs.Ytkgdmlfdlkmojaa
