/-
  Things in memory that the draws made: all of it lies behind the cursor, each list in a block of its own.
-/
import Derived.Test.YtifnolomekhmfaaGreatMathOrder
import Derived.Test.YtifnolomekhmfaaGreatMathPath
import Derived.Test.YtifnolomekhmfaaGreatMathSetP
import Derived.Test.YtifnolomekhmfaaGreatSizesT
import Derived.Test.YtifnolomekhmfaaGreatHide
namespace Go.Proofs.YtifnolomekhmfaaGreat
open Go.RowKit M
set_option linter.unusedVariables false

theorem RsAt.same {w : World} {b o : Nat} {r s : Rs} {p p' q q' pc pc' qc qc' : Nat} (h : RsAt w b o r (some ⟨p, 0, none⟩) pc (some ⟨q, 0, none⟩) qc) (h' : RsAt w b o s (some ⟨p', 0, none⟩) pc' (some ⟨q', 0, none⟩) qc') : p = p' ∧ q = q' := by
  have e1 := h.1.symm.trans h'.1
  have e2 := h.2.2.2.2.symm.trans h'.2.2.2.2
  simp only [Option.some.injEq, Value.slice.injEq, Addr.mk.injEq] at e1 e2
  exact ⟨e1.1.1, e2.1.1⟩
theorem Room.heapT {w w' : World} {b c : Nat} (h : Room w b c) (e : w'.heap[b]? = w.heap[b]?) : Room w' b c := h.of e
theorem RowS.heapT {w w' : World} {b : Nat} {l : List ByteArray} (h : RowS w b l) (hz : w.heap.size ≤ w'.heap.size) (e : w'.heap[b]? = w.heap[b]?) : RowS w' b l :=
  ⟨Nat.lt_of_lt_of_le h.1 hz, fun j hj => ⟨(World.cell?_of_block (a := ⟨b, j, none⟩) e).trans (h.2 j hj).1, by have := (h.2 j hj).2; simp only [World.frozen?, e] at this ⊢; exact this⟩⟩
theorem RowP.heapT {w w' : World} {b : Nat} {l : List Pp} (h : RowP w b l) (hz : w.heap.size ≤ w'.heap.size) (e : w'.heap[b]? = w.heap[b]?) : RowP w' b l :=
  h.of (Nat.lt_of_lt_of_le h.1 hz) (fun o' => World.cell?_of_block (a := ⟨b, o', none⟩) e) (fun o' => by simp only [World.frozen?, e])
theorem RsAt.heapT {w w' : World} {b o : Nat} {r : Rs} {pa : Option Addr} {pc : Nat} {qa : Option Addr} {qc : Nat} (h : RsAt w b o r pa pc qa qc) (e : w'.heap[b]? = w.heap[b]?) : RsAt w' b o r pa pc qa qc :=
  h.of (fun o' => World.cell?_of_block (a := ⟨b, o', none⟩) e)

/-- The row's own block: all of its room is there. -/
def OwnT (w : World) (g n c : Nat) : Prop := n ≤ c ∧ c ≤ maxLen ∧ ∃ cur : Array Value, w.heap[g]? = some (.cells cur 62 (0, 0)) ∧ cur.size = c * 5
theorem OwnT.made (w : World) : OwnT (w.alloc (Obj.cells #[] 62)) w.heap.size 0 0 := ⟨Nat.le_refl _, Nat.zero_le _, #[], heap_alloc_new w _, rfl⟩
theorem OwnT.keep {w w' : World} {g n c : Nat} (h : OwnT w g n c) (e : w'.heap[g]? = w.heap[g]?) : OwnT w' g n c := ⟨h.1, h.2.1, by
  obtain ⟨cur, hh, hs⟩ := h.2.2
  exact ⟨cur, e.trans hh, hs⟩⟩
theorem OwnT.lt {w : World} {g n c : Nat} (h : OwnT w g n c) : g < w.heap.size := by
  obtain ⟨cur, hh, hs⟩ := h.2.2
  exact (Array.getElem?_eq_some_iff.1 hh).1
theorem OwnT.grown {w w' : World} {N g n c : Nat} (h : OwnT w g n c) (hg : w.grownBy w' (some N)) (hN : N ≠ g) : OwnT w' g n c := h.keep (hg.block g h.lt (fun e => hN (Option.some.inj e).symm))
theorem OwnT.of_owns {w : World} {B g n c : Nat} {xs : List Value} (h : w.ownsRow B 62 5 (.slice (some ⟨g, 0, none⟩) n c) n xs) : OwnT w g n c := by
  rcases h.2 with ⟨e, _⟩ | ⟨g', cap', cur, hv, hB, hh, h1, h2, h3, _⟩
  · cases e
  · cases hv
    exact ⟨h1, h2, cur, hh, h3⟩
theorem OwnT.set {w : World} {g n c : Nat} (h : OwnT w g n c) (o : Nat) (v : Value) : OwnT (w.setCell ⟨g, o, none⟩ v) g n c := ⟨h.1, h.2.1, by
  obtain ⟨cur, hh, hs⟩ := h.2.2
  exact ⟨cur.setIfInBounds o v, by simp [World.setCell, Array.getElem?_modify, hh], by simpa using hs⟩⟩
/-- One thing of a row. -/
structure HasE (w : World) (N g j : Nat) (r : Rs) (p pc q qc : Nat) : Prop where
  at' : RsAt w g (j * 5) r (some ⟨p, 0, none⟩) pc (some ⟨q, 0, none⟩) qc
  rp : RowS w p r.pa
  rq : RowP w q r.ps
  pN : N < p
  qN : N < q
  pg : p ≠ g
  qg : q ≠ g
  cp : r.pa.length ≤ pc ∧ pc ≤ maxLen
  cq : r.ps.length ≤ qc ∧ qc ≤ maxLen
  rm : Room w q qc
/-- A row of things behind block N. -/
structure HasT (w : World) (N g : Nat) (rs : List Rs) : Prop where
  gN : N < g
  gs : g < w.heap.size
  fz : ∀ i, w.frozen? ⟨g, i, none⟩ = false
  el : ∀ j (hj : j < rs.length), ∃ p pc q qc, HasE w N g j rs[j] p pc q qc
  ap : ∀ i j (hi : i < rs.length) (hj : j < rs.length) p pc q qc p' pc' q' qc', RsAt w g (i * 5) rs[i] (some ⟨p, 0, none⟩) pc (some ⟨q, 0, none⟩) qc → RsAt w g (j * 5) rs[j] (some ⟨p', 0, none⟩) pc' (some ⟨q', 0, none⟩) qc' → p ≠ q' ∧ (i ≠ j → q ≠ q')
theorem HasT.heap {w w' : World} {N g : Nat} {rs : List Rs} (h : HasT w N g rs) (hz : w.heap.size ≤ w'.heap.size) (e : ∀ b, N < b → b < w.heap.size → w'.heap[b]? = w.heap[b]?) : HasT w' N g rs := by
  have eg := e g h.gN h.gs
  refine ⟨h.gN, Nat.lt_of_lt_of_le h.gs hz, fun i => by have := h.fz i; simp only [World.frozen?, eg] at this ⊢; exact this, fun j hj => ?_, fun i j hi hj p pc q qc p' pc' q' qc' h1 h2 => h.ap i j hi hj p pc q qc p' pc' q' qc' (h1.heapT eg.symm) (h2.heapT eg.symm)⟩
  obtain ⟨p, pc, q, qc, x⟩ := h.el j hj
  exact ⟨p, pc, q, qc, ⟨x.at'.heapT eg, x.rp.heapT hz (e p x.pN x.rp.1), x.rq.heapT hz (e q x.qN x.rq.1), x.pN, x.qN, x.pg, x.qg, x.cp, x.cq, x.rm.heapT (e q x.qN x.rq.1)⟩⟩
theorem HasT.below {w w' : World} {N g : Nat} {rs : List Rs} (h : HasT w N g rs) (hb : Below w.heap.size w w') : HasT w' N g rs := h.heap hb.size (fun b _ hbl => hb.block b hbl)
theorem HasT.grown {w w' : World} {N g : Nat} {rs : List Rs} (h : HasT w N g rs) (hg : w.grownBy w' (some N)) : HasT w' N g rs := h.heap hg.size (fun b hN hbl => hg.block b hbl (by simp; omega))
theorem HasT.made (w : World) (N : Nat) (hN : N < w.heap.size) : HasT (w.alloc (Obj.cells #[] 62)) N w.heap.size [] :=
  ⟨hN, by simp, fun k => World.frozen?_alloc_new w _ _ k, fun j hj => absurd hj (Nat.not_lt_zero _), fun i j hi => absurd hi (Nat.not_lt_zero _)⟩
theorem HasT.rss {w : World} {N g : Nat} {rs : List Rs} (h : HasT w N g rs) : Rss w w.heap.size (some ⟨g, 0, none⟩) rs := fun _ => ⟨g, 0, rfl, h.gs, fun j hj => by
  obtain ⟨p, pc, q, qc, x⟩ := h.el j hj
  exact ⟨_, pc, _, qc, by rw [Nat.zero_add]; exact x.at', ⟨x.rp.strs' x.rp.1, x.rq.pps x.rq.1, x.cp.1, x.cq.1, x.cp.2, x.cq.2, (fun e => by cases e), (fun e => by cases e)⟩⟩⟩
theorem HasT.of_grow {w : World} {N base lo : Nat} {v : Value} {ts : List RsT} (g : GrowR w base v ts lo) (hN : N < base) {rs : List Rs} (hm : ts.map (·.r) = rs) : ∃ b cap, v = .slice (some ⟨b, 0, none⟩) rs.length cap ∧ HasT w N b rs ∧ OwnT w b rs.length cap := by
  subst hm
  obtain ⟨b, cap, hv, hb⟩ := g.blk
  have ht := g.top
  have hbb := World.ownsRow.lt g.own b (by rw [hv]; rfl)
  refine ⟨b, cap, by rw [hv, List.length_map], ⟨by omega, by omega, ?_, fun j hj => ?_, fun i j hi hj p pc q qc p' pc' q' qc' x1 x2 => ?_⟩, by rw [List.length_map]; exact OwnT.of_owns (by have := g.own; rw [hv] at this; exact this)⟩
  · rcases g.own.2 with ⟨h, _⟩ | ⟨g', cap', cur, e, _, hh, _⟩
    · rw [hv] at h; cases h
    · rw [hv] at e; cases e
      exact fun i => rowsR_frozen hh i
  · have hj' : j < ts.length := by simpa using hj
    obtain ⟨h1, h2, h3, h4, h5, h6, h7⟩ := g.el j hj'
    obtain ⟨k1, k2, k3, k4⟩ := g.caps j hj'
    simp only [List.getElem_map]
    exact ⟨_, _, _, _, ⟨g.at hv j hj', h4, h5, by omega, by omega, fun e => h6 (by rw [e, hv]; rfl), fun e => h7 (by rw [e, hv]; rfl), ⟨k1, k2⟩, ⟨k3, k4⟩, g.room j hj'⟩⟩
  · have hi' : i < ts.length := by simpa using hi
    have hj' : j < ts.length := by simpa using hj
    obtain ⟨rfl, rfl⟩ := (g.at hv i hi').same x1
    obtain ⟨rfl, rfl⟩ := (g.at hv j hj').same x2
    have a1 := (g.el i hi').2.1
    have a2 := (g.el j hj').2.1
    rcases Nat.lt_trichotomy i j with hl | rfl | hl
    · have := g.ord i j hl hj'
      exact ⟨by omega, fun _ => by omega⟩
    · exact ⟨by omega, fun e => absurd rfl e⟩
    · have := g.ord j i hl hi'
      exact ⟨by omega, fun _ => by omega⟩
theorem HasT.low {w w' : World} {N g : Nat} {rs : List Rs} (h : HasT w N g rs) (e : w'.heap[g]? = w.heap[g]?) : ∀ j (hj : j < rs.length) p pc q qc, HasE w' N g j rs[j] p pc q qc → p < w.heap.size ∧ q < w.heap.size := fun j hj p pc q qc x => by
  obtain ⟨p0, pc0, q0, qc0, y⟩ := h.el j hj
  obtain ⟨rfl, rfl⟩ := (y.at'.heapT e).same x.at'
  exact ⟨y.rp.1, y.rq.1⟩
/-- Of one of them other things are known. -/
theorem HasT.setProps {w : World} {N g : Nat} {rs : List Rs} (h : HasT w N g rs) (k : Nat) (hk : k < rs.length) (g2 n2 c2 : Nat) (L : List Pp) (hn : n2 = L.length) (hrc : RowPC w g2 c2 L) (hfr : ∀ j (hj : j < rs.length) p pc q qc, HasE w N g j rs[j] p pc q qc → p ≠ g2 ∧ q ≠ g2) (hN : N < g2) (hne : g2 ≠ g) (h1 : n2 ≤ c2) (h2 : c2 ≤ maxLen) :
    HasT (w.setCell ⟨g, k * 5 + 4, none⟩ (.slice (some ⟨g2, 0, none⟩) n2 c2)) N g (rs.set k (setP rs[k] L)) := by
  subst hn
  have hr := hrc.rp
  have hoth : ∀ (x o : Nat) (hne : x ≠ g ∨ o ≠ k * 5 + 4), (w.setCell ⟨g, k * 5 + 4, none⟩ (.slice (some ⟨g2, 0, none⟩) L.length c2)).cell? ⟨x, o, none⟩ = w.cell? ⟨x, o, none⟩ := fun x o hne => World.cell?_setCell_other _ _ _ _ (fun e => by
    have e1 := congrArg Addr.block e
    have e2 := congrArg Addr.off e
    simp at e1 e2
    omega)
  have key : ∀ j (hj : j < rs.length) (r' : Rs) p pc q qc, RsAt (w.setCell ⟨g, k * 5 + 4, none⟩ (.slice (some ⟨g2, 0, none⟩) L.length c2)) g (j * 5) r' (some ⟨p, 0, none⟩) pc (some ⟨q, 0, none⟩) qc → ∃ p0 pc0 q0 qc0, HasE w N g j rs[j] p0 pc0 q0 qc0 ∧ p = p0 ∧ (k = j → q = g2) ∧ (k ≠ j → q = q0) := fun j hj r' p pc q qc y => by
    obtain ⟨p0, pc0, q0, qc0, x⟩ := h.el j hj
    have y1 := y.1
    have y5 := y.2.2.2.2
    rw [hoth _ _ (.inr (by omega)), x.at'.1] at y1
    simp only [Option.some.injEq, Value.slice.injEq, Addr.mk.injEq] at y1
    refine ⟨p0, pc0, q0, qc0, x, y1.1.1.symm, fun e => ?_, fun e => ?_⟩
    · subst e
      rw [World.cell?_setCell_same _ _ _ x.at'.2.2.2.2] at y5
      simp only [Option.some.injEq, Value.slice.injEq, Addr.mk.injEq] at y5
      exact y5.1.1.symm
    · rw [hoth _ _ (.inr (by omega)), x.at'.2.2.2.2] at y5
      simp only [Option.some.injEq, Value.slice.injEq, Addr.mk.injEq] at y5
      exact y5.1.1.symm
  refine ⟨h.gN, by simpa using h.gs, fun i => by rw [World.frozen?_setCell]; exact h.fz i, fun j hj => ?_, fun i j hi hj p pc q qc p' pc' q' qc' x1 x2 => ?_⟩
  rotate_left
  · obtain ⟨p0, pc0, q0, qc0, x, rfl, e1, e2⟩ := key i (by simpa using hi) _ _ _ _ _ x1
    obtain ⟨p1, pc1, q1, qc1, y, rfl, e3, e4⟩ := key j (by simpa using hj) _ _ _ _ _ x2
    have a := h.ap i j _ _ _ _ _ _ _ _ _ _ x.at' y.at'
    have f1 := hfr i _ _ _ _ _ x
    have f2 := hfr j _ _ _ _ _ y
    refine ⟨?_, fun hij => ?_⟩
    · by_cases e : k = j
      · rw [e3 e]; exact f1.1
      · rw [e4 e]; exact a.1
    · by_cases e : k = i
      · rw [e1 e, e4 (fun e' => hij (e.symm.trans e'))]; exact fun e' => f2.2 e'.symm
      · rw [e2 e]
        by_cases e' : k = j
        · rw [e3 e']; exact f1.2
        · rw [e4 e']; exact a.2 hij
  have hj' : j < rs.length := by simpa using hj
  obtain ⟨p, pc, q, qc, x⟩ := h.el j hj'
  obtain ⟨c0, c1, c2', c3, c4⟩ := x.at'
  have hp := x.rp.setCell ⟨g, k * 5 + 4, none⟩ (.slice (some ⟨g2, 0, none⟩) L.length c2) (fun e => x.pg e.symm)
  have hq := x.rq.setCell ⟨g, k * 5 + 4, none⟩ (.slice (some ⟨g2, 0, none⟩) L.length c2) (fun e => x.qg e.symm)
  have hm := (⟨x.rq, x.rm⟩ : RowPC w q qc _).setCell ⟨g, k * 5 + 4, none⟩ (.slice (some ⟨g2, 0, none⟩) L.length c2) (fun e => x.qg e.symm)
  have hr2 := hrc.setCell ⟨g, k * 5 + 4, none⟩ (.slice (some ⟨g2, 0, none⟩) L.length c2) (fun e => hne e.symm)
  have hr' := hr.setCell ⟨g, k * 5 + 4, none⟩ (.slice (some ⟨g2, 0, none⟩) L.length c2) (fun e => hne e.symm)
  rw [List.getElem_set]
  by_cases e : k = j
  · subst e
    simp only [if_true]
    refine ⟨p, pc, g2, c2, ⟨⟨?_, ?_, ?_, ?_, World.cell?_setCell_same _ _ _ c4⟩, hp, hr', x.pN, hN, x.pg, hne, x.cp, ⟨h1, h2⟩, hr2.rm⟩⟩
    · rw [hoth _ _ (.inr (by omega))]; exact c0
    · rw [hoth _ _ (.inr (by omega))]; exact c1
    · rw [hoth _ _ (.inr (by omega))]; exact c2'
    · rw [hoth _ _ (.inr (by omega))]; exact c3
  · rw [if_neg e]
    refine ⟨p, pc, q, qc, ⟨⟨?_, ?_, ?_, ?_, ?_⟩, hp, hq, x.pN, x.qN, x.pg, x.qg, x.cp, x.cq, hm.rm⟩⟩
    · rw [hoth _ _ (.inr (by omega))]; exact c0
    · rw [hoth _ _ (.inr (by omega))]; exact c1
    · rw [hoth _ _ (.inr (by omega))]; exact c2'
    · rw [hoth _ _ (.inr (by omega))]; exact c3
    · rw [hoth _ _ (.inr (by omega))]; exact c4

/-- 'append([]string{}, p...)', as a row with an address. -/
theorem wp_append_allO {w : World} {ops : Array Oper} {rest : List Oper} {o : Oper} {a : Act} {Q : Exit → Act → World → Prop} (hgd : o.guard = none) (s x : Operand)
    (ho : o.op = .call { callee := .builtin .append, args := #[s, x], argTypes := #[25, 25] })
    (B g0 : Nat) (l : List ByteArray) (n : Nat) (hn : n = l.length) (hs : a.eval s = .slice (some ⟨g0, 0, none⟩) 0 0) (hown : w.ownsRow B 9 1 (.slice (some ⟨g0, 0, none⟩) 0 0) 0 (strCells []))
    (g c : Nat) (hx : a.eval x = .slice (some ⟨g, 0, none⟩) n c) (hcell : ∀ j (hj : j < l.length), w.cell? ⟨g, j, none⟩ = some (.string l[j])) (hlen : n ≤ 1099511627776) (hB : B ≤ w.heap.size)
    (h : ∀ g' c' w', w'.ownsRow B 9 1 (.slice (some ⟨g', 0, none⟩) n c') n (strCells l) → Below B w w' → wpList Tryz.prog ops Q rest (a.put o.dst (.slice (some ⟨g', 0, none⟩) n c')) w') : wpList Tryz.prog ops Q (o :: rest) a w := by
  obtain ⟨i0, hi, hz0, hz1, hz2⟩ := info_parts info_str
  refine wpList_append_own w hgd s x 25 ho B 9 i0 (.string ByteArray.empty) 1 16 Tryz.underlying25 hi hz0 hz1 hz2 rfl (by decide) _ 0 _ hs hown ⟨g, 0, none⟩ n c (strCells l) hx (by rw [strCells_length, hn, Nat.mul_one]) ?_ ?_ ?_ ?_ hB ?_
  · intro j u hj
    have hjl : j < l.length := by have := (List.getElem?_eq_some_iff.1 hj).1; rwa [strCells_length] at this
    have e : (⟨g, 0, none⟩ : Addr).add j = ⟨g, j, none⟩ := by unfold Addr.add; split <;> simp_all
    rw [e, hcell j hjl]
    unfold strCells at hj
    rw [List.getElem?_map, List.getElem?_eq_getElem hjl] at hj
    exact hj
  · intro u hu
    unfold strCells at hu
    obtain ⟨y, _, rfl⟩ := List.mem_map.1 hu
    rfl
  · unfold maxLen; omega
  · omega
  · intro v' w' ho' hg hnn
    rw [Nat.zero_add] at ho'
    obtain ⟨g', c', rfl⟩ : ∃ g c, v' = .slice (some ⟨g, 0, none⟩) n c := by
      rcases ho'.2 with ⟨e, h0⟩ | ⟨g, cap, cur, hv, _⟩
      · have := (hnn.1 e).1; cases this
      · exact ⟨g, cap, hv⟩
    exact h g' c' w' ho' (below_grown hown hB hg)
end Go.Proofs.YtifnolomekhmfaaGreat
