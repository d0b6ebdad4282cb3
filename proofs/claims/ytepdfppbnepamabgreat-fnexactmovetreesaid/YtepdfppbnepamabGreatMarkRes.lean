/-
  What laws.markResS does.
-/
import Derived.Test.YtepdfppbnepamabGreatMathOrder
import Derived.Test.YtepdfppbnepamabGreatMarkProps
import Derived.Test.YtepdfppbnepamabGreatMarksK
namespace Go.Proofs.YtepdfppbnepamabGreat
open Go.RowKit M
set_option linter.unusedVariables false

/-- How many marks a thing takes. -/
def cntR (r : Rs) : Nat := r.pa.length + 3 + 3 * r.ps.length
/-- What is marked true of this number. -/
def coM (k : Nat) : Bool := (k : Int) % 3 == 0

/-- A row of things, the first i of them marked: thing j from K j on. -/
structure MixR (w : World) (lo hi g : Nat) (rs : List Rs) (pb qb K : Nat → Nat) (i : Nat) : Prop where
  gl : lo ≤ g
  gh : g < hi
  gs : g < w.heap.size
  fz : ∀ o, w.frozen? ⟨g, o, none⟩ = false
  sl : ∀ j (hj : j < rs.length), w.cell? ⟨g, j * 5, none⟩ = some (.slice (some ⟨pb j, 0, none⟩) rs[j].pa.length rs[j].pa.length) ∧ w.cell? ⟨g, j * 5 + 4, none⟩ = some (.slice (some ⟨qb j, 0, none⟩) rs[j].ps.length rs[j].ps.length)
  ex : ∀ j (hj : j < rs.length), ∃ v1 v2 v3, w.cell? ⟨g, j * 5 + 1, none⟩ = some v1 ∧ w.cell? ⟨g, j * 5 + 2, none⟩ = some v2 ∧ w.cell? ⟨g, j * 5 + 3, none⟩ = some v3
  bnd : ∀ j, j < rs.length → lo ≤ pb j ∧ pb j < qb j ∧ qb j < hi ∧ pb j ≠ g ∧ qb j ≠ g
  ord : ∀ i j, i < j → j < rs.length → qb i < pb j ∨ qb j < pb i
  rp : ∀ j (hj : j < rs.length), j < i → RowS w (pb j) (marks (K j) rs[j].pa.length) ∧ MarkP w (qb j) rs[j].ps.length (K j + rs[j].pa.length + 3) ∧ w.cell? ⟨g, j * 5 + 1, none⟩ = some (.bool (coM (K j + rs[j].pa.length))) ∧ w.cell? ⟨g, j * 5 + 2, none⟩ = some (.string (mt (K j + rs[j].pa.length + 1))) ∧ w.cell? ⟨g, j * 5 + 3, none⟩ = some (.int .i64 (((K j + rs[j].pa.length : Nat) : Int) + 1 + 1))
  rq : ∀ j (hj : j < rs.length), i ≤ j → RowS w (pb j) rs[j].pa ∧ RowP w (qb j) rs[j].ps

theorem OwnR.mix {w : World} {lo hi g : Nat} {rs : List Rs} {pb qb : Nat → Nat} (h : OwnR w lo hi g rs pb qb) (K : Nat → Nat) : MixR w lo hi g rs pb qb K 0 :=
  ⟨h.gl, h.gh, h.gs, h.fz, fun j hj => ⟨(h.cl j hj).1, (h.cl j hj).2.2.2.2⟩, fun j hj => ⟨_, _, _, (h.cl j hj).2.1, (h.cl j hj).2.2.1, (h.cl j hj).2.2.2.1⟩, h.bnd, h.ord, fun j _ hj => absurd hj (Nat.not_lt_zero _), fun j hj _ => ⟨h.rp j hj, h.rq j hj⟩⟩

theorem cell_of_heap {w w' : World} {b : Nat} (e : w'.heap[b]? = w.heap[b]?) (o : Nat) : w'.cell? ⟨b, o, none⟩ = w.cell? ⟨b, o, none⟩ := by simp only [World.cell?, e]
theorem frozen_of_heap {w w' : World} {b : Nat} (e : w'.heap[b]? = w.heap[b]?) (o : Nat) : w'.frozen? ⟨b, o, none⟩ = w.frozen? ⟨b, o, none⟩ := by simp only [World.frozen?, e]
theorem RowS.heap {w w' : World} {b : Nat} {l : List ByteArray} (h : RowS w b l) (hz : w.heap.size ≤ w'.heap.size) (e : w'.heap[b]? = w.heap[b]?) : RowS w' b l :=
  ⟨Nat.lt_of_lt_of_le h.1 hz, fun j hj => by rw [cell_of_heap e, frozen_of_heap e]; exact h.2 j hj⟩
theorem RowP.heap {w w' : World} {b : Nat} {l : List Pp} (h : RowP w b l) (hz : w.heap.size ≤ w'.heap.size) (e : w'.heap[b]? = w.heap[b]?) : RowP w' b l :=
  h.of (Nat.lt_of_lt_of_le h.1 hz) (fun o => cell_of_heap e o) (fun o => frozen_of_heap e o)
theorem CellsP.heap {w w' : World} {b n : Nat} {F : Nat → Value} (h : CellsP w b n F) (hz : w.heap.size ≤ w'.heap.size) (e : w'.heap[b]? = w.heap[b]?) : CellsP w' b n F :=
  h.of (Nat.lt_of_lt_of_le h.1 hz) (fun o => cell_of_heap e o) (fun o => frozen_of_heap e o)

/-- All that keeps the blocks from lo to hi keeps it. -/
theorem MixR.heap {w w' : World} {lo hi g : Nat} {rs : List Rs} {pb qb K : Nat → Nat} {i : Nat} (h : MixR w lo hi g rs pb qb K i) (hz : w.heap.size ≤ w'.heap.size) (e : ∀ b, lo ≤ b → b < hi → b < w.heap.size → w'.heap[b]? = w.heap[b]?) : MixR w' lo hi g rs pb qb K i := by
  have eg := e g h.gl h.gh h.gs
  refine ⟨h.gl, h.gh, Nat.lt_of_lt_of_le h.gs hz, fun o => by rw [frozen_of_heap eg]; exact h.fz o, fun j hj => by simp only [cell_of_heap eg]; exact h.sl j hj, fun j hj => by simp only [cell_of_heap eg]; exact h.ex j hj, h.bnd, h.ord, fun j hj hji => ?_, fun j hj hji => ?_⟩
  · obtain ⟨h1, h2, h3⟩ := h.rp j hj hji
    obtain ⟨b1, b2, b3, _, _⟩ := h.bnd j hj
    simp only [cell_of_heap eg]
    exact ⟨h1.heap hz (e _ b1 (by omega) h1.1), CellsP.heap h2 hz (e _ (by omega) b3 h2.1), h3⟩
  · obtain ⟨h1, h2⟩ := h.rq j hj hji
    obtain ⟨b1, b2, b3, _, _⟩ := h.bnd j hj
    exact ⟨h1.heap hz (e _ b1 (by omega) h1.1), h2.heap hz (e _ (by omega) b3 h2.1)⟩
theorem MixR.below {w w' : World} {lo hi g : Nat} {rs : List Rs} {pb qb K : Nat → Nat} {i : Nat} (h : MixR w lo hi g rs pb qb K i) (hb : Below w.heap.size w w') : MixR w' lo hi g rs pb qb K i :=
  h.heap hb.size (fun b _ _ hz => hb.block b hz)
theorem MixR.turn {w w' : World} {lo hi g : Nat} {rs : List Rs} {pb qb K : Nat → Nat} {i : Nat} {S : Nat → Prop} (h : MixR w lo hi g rs pb qb K i) (t : Turn S w w') (hS : ∀ x, lo ≤ x → x < hi → ¬ S x) : MixR w' lo hi g rs pb qb K i :=
  h.heap t.size (fun b h1 h2 hz => t.block b hz (hS b h1 h2))
theorem OwnR.turn {w w' : World} {lo hi g : Nat} {rs : List Rs} {pb qb : Nat → Nat} {S : Nat → Prop} (h : OwnR w lo hi g rs pb qb) (t : Turn S w w') (hS : ∀ x, lo ≤ x → x < hi → ¬ S x) : OwnR w' lo hi g rs pb qb :=
  h.of t.size (fun b o h1 h2 hz => t.cell hz (hS b h1 h2) o) (fun b o h1 h2 hz => t.frozen hz (hS b h1 h2) o)

/-- One thing marked: its path, its three cells, what is known of it. -/
theorem MixR.round {w w1 w3 w6 : World} {lo hi g : Nat} {rs : List Rs} {pb qb K : Nat → Nat} {i : Nat} (h : MixR w lo hi g rs pb qb K i) (hi' : i < rs.length)
    (r1 : RowS w1 (pb i) (marks (K i) rs[i].pa.length)) (t1 : Turn (· = pb i) w w1)
    (b3 : Below (w1.setCell ⟨g, i * 5 + 1, none⟩ (.bool (coM (K i + rs[i].pa.length)))).heap.size (w1.setCell ⟨g, i * 5 + 1, none⟩ (.bool (coM (K i + rs[i].pa.length)))) w3)
    (r6 : MarkP w6 (qb i) rs[i].ps.length (K i + rs[i].pa.length + 3)) (t6 : Turn (· = qb i) ((w3.setCell ⟨g, i * 5 + 2, none⟩ (.string (mt (K i + rs[i].pa.length + 1)))).setCell ⟨g, i * 5 + 3, none⟩ (.int .i64 (((K i + rs[i].pa.length : Nat) : Int) + 1 + 1))) w6) :
    MixR w6 lo hi g rs pb qb K (i + 1) ∧ Turn (fun x => lo ≤ x ∧ x < hi) w w6 := by
  obtain ⟨b1, b2, b3', bg, bq⟩ := h.bnd i hi'
  have hgs := h.gs
  have z1 := t1.size
  have z3 : w1.heap.size ≤ w3.heap.size := by have := b3.size; simpa using this
  have z6 : w3.heap.size ≤ w6.heap.size := by have := t6.size; simpa using this
  -- the block g's cells
  have e1 : ∀ o, w1.cell? ⟨g, o, none⟩ = w.cell? ⟨g, o, none⟩ := fun o => t1.cell hgs (fun e => bg e.symm) o
  have f1 : ∀ o, w1.frozen? ⟨g, o, none⟩ = w.frozen? ⟨g, o, none⟩ := fun o => t1.frozen hgs (fun e => bg e.symm) o
  have e3 : ∀ o, w3.cell? ⟨g, o, none⟩ = (w1.setCell ⟨g, i * 5 + 1, none⟩ (.bool (coM (K i + rs[i].pa.length)))).cell? ⟨g, o, none⟩ := fun o => b3.cell (p := ⟨g, o, none⟩) (by simp; omega)
  have f3 : ∀ o, w3.frozen? ⟨g, o, none⟩ = w1.frozen? ⟨g, o, none⟩ := fun o => (b3.frozen (p := ⟨g, o, none⟩) (by simp; omega)).trans (World.frozen?_setCell _ _ _ _)
  have e6 : ∀ o, w6.cell? ⟨g, o, none⟩ = ((w3.setCell ⟨g, i * 5 + 2, none⟩ (.string (mt (K i + rs[i].pa.length + 1)))).setCell ⟨g, i * 5 + 3, none⟩ (.int .i64 (((K i + rs[i].pa.length : Nat) : Int) + 1 + 1))).cell? ⟨g, o, none⟩ := fun o => t6.cell (by simp; omega) (fun e => bq e.symm) o
  have f6 : ∀ o, w6.frozen? ⟨g, o, none⟩ = w3.frozen? ⟨g, o, none⟩ := fun o => (t6.frozen (by simp; omega) (fun e => bq e.symm) o).trans ((World.frozen?_setCell _ _ _ _).trans (World.frozen?_setCell _ _ _ _))
  have far : ∀ (W : World) (o p : Nat) (v : Value), o ≠ p → (W.setCell ⟨g, p, none⟩ v).cell? ⟨g, o, none⟩ = W.cell? ⟨g, o, none⟩ := fun W o p v hne => World.cell?_setCell_other _ _ _ _ (fun e => hne (congrArg Addr.off e).symm)
  have oth : ∀ o, o ≠ i * 5 + 1 → o ≠ i * 5 + 2 → o ≠ i * 5 + 3 → w6.cell? ⟨g, o, none⟩ = w.cell? ⟨g, o, none⟩ := fun o n1 n2 n3 => by
    rw [e6, far _ _ _ _ n3, far _ _ _ _ n2, e3, far _ _ _ _ n1, e1]
  obtain ⟨v1, v2, v3, x1, x2, x3⟩ := h.ex i hi'
  have c1 : w6.cell? ⟨g, i * 5 + 1, none⟩ = some (.bool (coM (K i + rs[i].pa.length))) := by
    rw [e6, far _ _ _ _ (by omega), far _ _ _ _ (by omega), e3]
    exact World.cell?_setCell_same _ _ _ ((e1 _).trans x1)
  have c2 : w6.cell? ⟨g, i * 5 + 2, none⟩ = some (.string (mt (K i + rs[i].pa.length + 1))) := by
    rw [e6, far _ _ _ _ (by omega)]
    exact World.cell?_setCell_same _ _ _ (show w3.cell? ⟨g, i * 5 + 2, none⟩ = some v2 by rw [e3, far _ _ _ _ (by omega), e1]; exact x2)
  have c3 : w6.cell? ⟨g, i * 5 + 3, none⟩ = some (.int .i64 (((K i + rs[i].pa.length : Nat) : Int) + 1 + 1)) := by
    rw [e6]
    exact World.cell?_setCell_same _ _ _ (show (w3.setCell ⟨g, i * 5 + 2, none⟩ (.string (mt (K i + rs[i].pa.length + 1)))).cell? ⟨g, i * 5 + 3, none⟩ = some v3 by rw [far _ _ _ _ (by omega), e3, far _ _ _ _ (by omega), e1]; exact x3)
  -- other blocks
  have hp : ∀ b, b < w.heap.size → b ≠ g → b ≠ pb i → b ≠ qb i → w6.heap[b]? = w.heap[b]? := fun b hb n1 n2 n3 => by
    rw [t6.block b (by simp; omega) n3, Below.heap_setCell _ _ _ _ n1, Below.heap_setCell _ _ _ _ n1, b3.block b (by simp; omega), Below.heap_setCell _ _ _ _ n1, t1.block b hb n2]
  have hpi : w6.heap[pb i]? = w1.heap[pb i]? := by
    have := r1.1
    rw [t6.block (pb i) (by simp; omega) (by omega), Below.heap_setCell _ _ _ _ bg, Below.heap_setCell _ _ _ _ bg, b3.block (pb i) (by simp; omega), Below.heap_setCell _ _ _ _ bg]
  refine ⟨⟨h.gl, h.gh, by omega, fun o => by rw [f6, f3, f1]; exact h.fz o, fun j hj => ?_, fun j hj => ?_, h.bnd, h.ord, fun j hj hji => ?_, fun j hj hji => ?_⟩, ?_⟩
  · rw [oth _ (by omega) (by omega) (by omega), oth _ (by omega) (by omega) (by omega)]
    exact h.sl j hj
  · by_cases e : j = i
    · subst e; exact ⟨_, _, _, c1, c2, c3⟩
    · rw [oth _ (by omega) (by omega) (by omega), oth _ (by omega) (by omega) (by omega), oth _ (by omega) (by omega) (by omega)]
      exact h.ex j hj
  · by_cases e : j = i
    · subst e
      exact ⟨r1.heap (by omega) hpi, r6, c1, c2, c3⟩
    · obtain ⟨h1, h2, h3⟩ := h.rp j hj (by omega)
      have hlt : j < i := by omega
      have o1 := h.ord j i hlt hi'
      obtain ⟨d1, d2, d3, d4, d5⟩ := h.bnd j hj
      rw [oth _ (by omega) (by omega) (by omega), oth _ (by omega) (by omega) (by omega), oth _ (by omega) (by omega) (by omega)]
      exact ⟨h1.heap (by omega) (hp _ h1.1 d4 (by omega) (by omega)), CellsP.heap h2 (by omega) (hp _ h2.1 d5 (by omega) (by omega)), h3⟩
  · obtain ⟨h1, h2⟩ := h.rq j hj (by omega)
    have o1 := h.ord i j (by omega) hj
    obtain ⟨d1, d2, d3, d4, d5⟩ := h.bnd j hj
    exact ⟨h1.heap (by omega) (hp _ h1.1 d4 (by omega) (by omega)), h2.heap (by omega) (hp _ h2.1 d5 (by omega) (by omega))⟩
  · have hgl := h.gl
    have hgh := h.gh
    exact ⟨t6.os.trans (b3.os.trans t1.os), t6.tape.trans (b3.tape.trans t1.tape), t6.output.trans (b3.output.trans t1.output), by omega, fun b hb hS => hp b hb (fun e => hS (by subst e; exact ⟨hgl, hgh⟩)) (fun e => hS (by subst e; exact ⟨b1, by omega⟩)) (fun e => hS (by subst e; exact ⟨by omega, b3'⟩))⟩
end Go.Proofs.YtepdfppbnepamabGreat
