/-
  A row of nodes that grows by a node that is laid first and filled then; how both readings end.
-/
import Derived.Test.YtccehdlgpbeijaaGreatDoorSpecRead
import Derived.Deep.RegionLaw
import Derived.Laws.OwnMore
namespace Go.Proofs.YtccehdlgpbeijaaGreatDoor
open Go.RowKit M
set_option linter.unusedVariables false

def zero4 : List Value := [.string ByteArray.empty, .string ByteArray.empty, .string ByteArray.empty, .slice none 0 0]
/-- A row whose last node is not yet filled. -/
structure GrowZ (w : World) (B g cap : Nat) (ts : List NdT) (lo : Nat) : Prop where
  own : w.ownsRow B 26 4 (.slice (some ⟨g, 0, none⟩) (ts.length + 1) cap) (ts.length + 1) (ndCells ts ++ zero4)
  top : lo ≤ w.heap.size
  kids : ∃ h : Nat → Nat, B ≤ h 0 ∧ (∀ j, j < ts.length → h j ≤ h (j + 1)) ∧ h ts.length ≤ lo ∧
    ∀ j (hj : j < ts.length), OwnK w ts[j].2.1 ts[j].1.ks (fun x => Ivl (h j) (h (j + 1)) x ∧ x ≠ g)
theorem GrowZ.lt {w : World} {B g cap lo : Nat} {ts : List NdT} (h : GrowZ w B g cap ts lo) : B ≤ g ∧ g < w.heap.size := World.ownsRow.lt h.own g rfl
theorem GrowZ.cells {w : World} {B g cap lo : Nat} {ts : List NdT} (h : GrowZ w B g cap ts lo) :
    w.cell? ⟨g, ts.length * 4, none⟩ = some (.string ByteArray.empty) ∧ w.cell? ⟨g, ts.length * 4 + 1, none⟩ = some (.string ByteArray.empty) ∧ w.cell? ⟨g, ts.length * 4 + 2, none⟩ = some (.string ByteArray.empty) ∧ w.cell? ⟨g, ts.length * 4 + 3, none⟩ = some (.slice none 0 0) ∧ ∀ j, w.frozen? ⟨g, j, none⟩ = false := by
  have hl := ndCells_length ts
  have hat : ∀ i, i < 4 → (ndCells ts ++ zero4)[ts.length * 4 + i]? = zero4[i]? := fun i hi => by
    rw [List.getElem?_append_right (by omega), hl, Nat.add_sub_cancel_left]
  refine ⟨?_, ?_, ?_, ?_, fun j => h.own.frozenAt j⟩
  · rw [h.own.cellAt (ts.length * 4) (by omega)]; exact hat 0 (by omega)
  · rw [h.own.cellAt (ts.length * 4 + 1) (by omega)]; exact hat 1 (by omega)
  · rw [h.own.cellAt (ts.length * 4 + 2) (by omega)]; exact hat 2 (by omega)
  · rw [h.own.cellAt (ts.length * 4 + 3) (by omega)]; exact hat 3 (by omega)
theorem GrowZ.store {w : World} {B g cap lo : Nat} {ts : List NdT} (z : GrowZ w B g cap ts lo) (p : Addr) (u : Value) (hp : p.block < B) : GrowZ (w.setCell p u) B g cap ts lo := by
  obtain ⟨h, h0, hm, hk, hj⟩ := z.kids
  refine ⟨ownsRow_setCell_below z.own hp u, by simpa using z.top, h, h0, hm, hk, fun j hjl => (hj j hjl).setCell p u (fun hx => ?_)⟩
  have := chainN hm 0 j (by omega) (by omega)
  have := hx.1.1
  omega
theorem set_last4 (xs : List Value) (n : Nat) (hn : xs.length = n) (z0 z1 z2 z3 a b c d : Value) : ((((xs ++ [z0, z1, z2, z3]).set n a).set (n + 1) b).set (n + 2) c).set (n + 3) d = xs ++ [a, b, c, d] := by
  subst hn
  rw [List.set_append_right _ _ (Nat.le_refl _), List.set_append_right _ _ (by omega), List.set_append_right _ _ (by omega), List.set_append_right _ _ (by omega)]
  congr 1
  simp
/-- .. filled. -/
theorem GrowZ.fill {w : World} {B g cap lo : Nat} {ts : List NdT} (z : GrowZ w B g cap ts lo) (n : Nd) (an : Option Addr) (cn : Nat) (hkid : OwnK w an n.ks (fun x => Ivl lo w.heap.size x ∧ x ≠ g)) :
    GrowK ((((w.setCell ⟨g, ts.length * 4, none⟩ (.string n.ns)).setCell ⟨g, ts.length * 4 + 1, none⟩ (.string n.nm)).setCell ⟨g, ts.length * 4 + 2, none⟩ (.string n.tx)).setCell ⟨g, ts.length * 4 + 3, none⟩ (.slice an n.ks.length cn)) B (.slice (some ⟨g, 0, none⟩) (ts.length + 1) cap) (ts ++ [(n, an, cn)]) w.heap.size := by
  have hl := ndCells_length ts
  have o1 := (z.own.stored (ts.length * 4) (.string n.ns)).1
  have o2 := (o1.stored (ts.length * 4 + 1) (.string n.nm)).1
  have o3 := (o2.stored (ts.length * 4 + 2) (.string n.tx)).1
  have o4 := (o3.stored (ts.length * 4 + 3) (.slice an n.ks.length cn)).1
  rw [zero4, set_last4 (ndCells ts) (ts.length * 4) hl] at o4
  obtain ⟨h, h0, hm, hk, hj⟩ := z.kids
  have hlt := z.lt
  have htop := z.top
  refine ⟨?_, ?_, by simp, fun i => if i = ts.length + 1 then w.heap.size else h i, ?_, ?_, ?_, ?_⟩
  · rw [ndCells_append, List.length_append]; exact o4
  · intro b hb
    have : g = b := Option.some.inj hb
    omega
  · simpa using h0
  · intro j hj'
    rw [List.length_append] at hj'
    simp only [List.length_cons, List.length_nil] at hj'
    by_cases e : j = ts.length
    · subst e
      simp only [show ¬ ts.length = ts.length + 1 by omega, if_false, if_true]
      omega
    · simp only [show ¬ j = ts.length + 1 by omega, show ¬ j + 1 = ts.length + 1 by omega, if_false]
      exact hm j (by omega)
  · rw [List.length_append]
    simp
  · intro j hj'
    rw [List.length_append] at hj'
    simp only [List.length_cons, List.length_nil] at hj'
    have hne : ∀ (S : Nat → Prop) (a' : Option Addr) (ks' : List Nd), OwnK w a' ks' S → (∀ x, S x → x ≠ g) → OwnK ((((w.setCell ⟨g, ts.length * 4, none⟩ (.string n.ns)).setCell ⟨g, ts.length * 4 + 1, none⟩ (.string n.nm)).setCell ⟨g, ts.length * 4 + 2, none⟩ (.string n.tx)).setCell ⟨g, ts.length * 4 + 3, none⟩ (.slice an n.ks.length cn)) a' ks' S := fun S a' ks' ho hS =>
      (((ho.setC _ hS).setC _ hS).setC _ hS).setC _ hS
    by_cases e : j = ts.length
    · subst e
      simp only [List.getElem_append_right (Nat.le_refl _), Nat.sub_self, List.getElem_cons_zero, show ¬ ts.length = ts.length + 1 by omega, if_false, if_true]
      refine hne _ _ _ (hkid.wide (fun x hx => ⟨?_, ?_⟩)) (fun x hx => ?_)
      · have := hx.1; unfold Ivl at this ⊢; omega
      · intro e; exact hx.2 (Option.some.inj e)
      · intro e; exact hx.2 (by rw [e]; rfl)
    · have hjl : j < ts.length := by omega
      simp only [List.getElem_append_left hjl, show ¬ j = ts.length + 1 by omega, show ¬ j + 1 = ts.length + 1 by omega, if_false]
      exact hne _ _ _ ((hj j hjl).wide (fun x hx => ⟨hx.1, fun e => hx.2 (Option.some.inj e)⟩)) (fun x hx e => hx.2 (by rw [e]; rfl))

/-- 'append' of a node that is not yet filled, as one step of a region that draws. -/
theorem step_append_nodeZ {ops : Array Oper} {o : Oper} {a : Act} {W : World} {K : Act → World → Prop} {Q : Exit → Act → World → Prop} {E : Prop} (hg : o.guard = none) (s x : Operand)
    (ho : o.op = .call { callee := .builtin .append, args := #[s, x], argTypes := #[24, 24] })
    (B lo : Nat) (v : Value) (ts : List NdT) (hs : a.eval s = v) (hown : GrowK W B v ts lo)
    (N : Nat) (hx : a.eval x = .slice (some ⟨N, 0, none⟩) 1 1) (hc0 : W.cell? ⟨N, 0, none⟩ = some (.string ByteArray.empty)) (hc1 : W.cell? ⟨N, 1, none⟩ = some (.string ByteArray.empty)) (hc2 : W.cell? ⟨N, 2, none⟩ = some (.string ByteArray.empty)) (hc3 : W.cell? ⟨N, 3, none⟩ = some (.slice none 0 0))
    (hlen : ts.length + 1 ≤ 1000000000) (hBl : B ≤ lo)
    (hK : ∀ g cap w', GrowZ w' B g cap ts lo → W.grownBy w' v.ownBlock → (some g = v.ownBlock ∨ g = W.heap.size) → K (a.put o.dst (.slice (some ⟨g, 0, none⟩) (ts.length + 1) cap)) w') :
    if Region.wanted o (yielded ops a.tmps) = true then Oper.wp Tryz.prog o a W K Q else E := by
  have hw : Region.wanted o (yielded ops a.tmps) = true := by simp [Region.wanted, hg]
  rw [if_pos hw]
  obtain ⟨i0, hi, hz0, hz1, hz2⟩ := info_parts infoNd
  have hlt := World.ownsRow.lt hown.own
  have l2 := hown.top
  obtain ⟨v', w', hr, h2, h3, h4, h5⟩ := run_append_own_at (P := Tryz.prog) W B 24 o.type 26 i0 _ 4 72 Tryz.underlying24 hi hz0 hz1 hz2 rfl (by decide) v ts.length _ hown.own ⟨N, 0, none⟩ 1 1 zero4 rfl (by
    intro j u hj
    have e : ∀ k, (⟨N, 0, none⟩ : Addr).add k = ⟨N, k, none⟩ := fun k => by unfold Addr.add; split <;> simp_all
    rw [e]
    match j, hj with
    | 0, hj => simp [zero4] at hj; subst hj; exact hc0
    | 1, hj => simp [zero4] at hj; subst hj; exact hc1
    | 2, hj => simp [zero4] at hj; subst hj; exact hc2
    | 3, hj => simp [zero4] at hj; subst hj; exact hc3
    | n + 4, hj => simp [zero4] at hj) (by
    intro u hu
    simp only [zero4, List.mem_cons, List.not_mem_nil, or_false] at hu
    rcases hu with rfl | rfl | rfl | rfl <;> rfl) (by unfold maxLen; omega) (by omega) (by omega)
  unfold Oper.wp execOp
  simp only [ho, resolve, invoke, builtin, Sem.run_bind, Sem.run_pure, Result.andThen_ok, List.map_toArray, List.map_cons, List.map_nil, hs, hx, hr]
  obtain ⟨g, cap, rfl⟩ : ∃ g cap, v' = .slice (some ⟨g, 0, none⟩) (ts.length + 1) cap := by
    rcases h2.2 with ⟨_, h0⟩ | ⟨g, cap, cur, hv, _⟩
    · omega
    · exact ⟨g, cap, hv⟩
  have hat : some g = v.ownBlock ∨ g = W.heap.size := h5.elim .inl (fun e => .inr (Option.some.inj e))
  refine hK g cap w' ⟨h2, Nat.le_trans l2 h3.size, ?_⟩ h3 hat
  obtain ⟨h, h0, hm, hk, hj⟩ := hown.kids
  refine ⟨h, h0, hm, hk, fun j hjl => ?_⟩
  have hS : ∀ x, (Ivl (h j) (h (j + 1)) x ∧ some x ≠ v.ownBlock) → x < W.heap.size ∧ some x ≠ v.ownBlock := fun x hx => by
    have e1 := chainN hm (j + 1) ts.length (by omega) (Nat.le_refl _)
    have := hx.1
    unfold Ivl at this
    exact ⟨by omega, hx.2⟩
  refine OwnK.wide ((hj j hjl).keep (fun b o hb => by
    have := h3.block b (hS b hb).1 (hS b hb).2
    simp only [World.cell?, this]) (fun b o hb => by
    have := h3.block b (hS b hb).1 (hS b hb).2
    simp only [World.frozen?, this])) (fun x hx => ⟨hx.1, fun e => ?_⟩)
  subst e
  rcases hat with e | e
  · exact hx.2 e
  · have := (hS x hx).1; omega

theorem grow_below {w w' : World} {B lo : Nat} {v : Value} {ts : List NdT} (h : GrowK w B v ts lo) (hg : w.grownBy w' v.ownBlock) (hB : B ≤ lo) : Below B w w' := by
  have hlt := World.ownsRow.lt h.own
  have ht := h.top
  exact ⟨hg.os, hg.tape, hg.output, hg.size, fun k hk => hg.block k (by omega) (fun e => by have := (hlt k e.symm).1; omega)⟩

/-- What is left is less. -/
theorem sd_len : ∀ f, (∀ d ps o n r, sdN f d ps o = some (n, r) → r.length < ps.length) ∧ (∀ d ps ns nm acc t n r, sdK f d ps ns nm acc t = some (n, r) → r.length < ps.length) := by
  intro f
  induction f with
  | zero => exact ⟨(fun d ps o n r h => by rw [sdN] at h; cases h), (fun d ps ns nm acc t n r h => by rw [sdK] at h; cases h)⟩
  | succ f ih =>
    constructor
    · intro d ps o n r h
      cases d with
      | zero => rw [sdN] at h; cases h
      | succ d =>
        cases ps with
        | nil => rw [sdN] at h; cases h
        | cons p q =>
          rw [sdN] at h
          split at h
          · cases h; simp
          · split at h
            · have := ih.2 _ _ _ _ _ _ _ _ h; simp; omega
            · cases h
    · intro d ps ns nm acc t n r h
      cases ps with
      | nil => rw [sdK] at h; cases h
      | cons p q =>
        rw [sdK] at h
        split at h
        · split at h
          · split at h
            · cases h; simp
            · split at h
              · cases h; simp
              · cases h
          · cases h
        · split at h
          · have := ih.2 _ _ _ _ _ _ _ _ h; simp; omega
          · split at h
            · cases h
            · rename_i n1 r1 hn
              have h1 := ih.1 _ _ _ _ _ hn
              have h2 := ih.2 _ _ _ _ _ _ _ _ h
              omega
theorem Two.refl (w : World) (N M : Nat) : Two w w N M := ⟨rfl, rfl, rfl, Nat.le_refl _, fun _ _ _ _ => rfl⟩
theorem Two.below {w w1 w2 : World} {N M : Nat} (h : Two w w1 N M) (hb : Below w.heap.size w1 w2) : Two w w2 N M :=
  ⟨hb.os.trans h.os, hb.tape.trans h.tape, hb.output.trans h.output, Nat.le_trans h.size hb.size, fun k hk h1 h2 => (hb.block k hk).trans (h.block k hk h1 h2)⟩
theorem Two.grow {w w1 w2 : World} {N M : Nat} (h : Two w w1 N M) (hg : w1.grownBy w2 (some N)) : Two w w2 N M :=
  ⟨hg.os.trans h.os, hg.tape.trans h.tape, hg.output.trans h.output, Nat.le_trans h.size hg.size, fun k hk h1 h2 => (hg.block k (Nat.lt_of_lt_of_le hk h.size) (by simpa using h1)).trans (h.block k hk h1 h2)⟩
theorem Two.setN {w w1 : World} {N M j : Nat} (h : Two w w1 N M) (v : Value) : Two w (w1.setCell ⟨N, j, none⟩ v) N M :=
  ⟨h.os, h.tape, h.output, by simpa using h.size, fun k hk h1 h2 => (Below.heap_setCell _ _ _ _ h1).trans (h.block k hk h1 h2)⟩
theorem Two.setM {w w1 : World} {N M j : Nat} (h : Two w w1 N M) (v : Value) : Two w (w1.setCell ⟨M, j, none⟩ v) N M :=
  ⟨h.os, h.tape, h.output, by simpa using h.size, fun k hk h1 h2 => (Below.heap_setCell _ _ _ _ h2).trans (h.block k hk h1 h2)⟩
theorem Two.setB {w w1 : World} {N M j b : Nat} (h : Two w w1 N M) (v : Value) (hb : w.heap.size ≤ b) : Two w (w1.setCell ⟨b, j, none⟩ v) N M :=
  ⟨h.os, h.tape, h.output, by simpa using h.size, fun k hk h1 h2 => (Below.heap_setCell _ _ _ _ (by show k ≠ b; omega)).trans (h.block k hk h1 h2)⟩
end Go.Proofs.YtccehdlgpbeijaaGreatDoor
