/-
  Things in memory that the draws made or turned: all of it lies behind the cursor; what is known of one may have no address.
-/
import Derived.Test.YtifnolomekhmfaaGreatHasT
namespace Go.Proofs.YtifnolomekhmfaaGreat
open Go.RowKit M
set_option linter.unusedVariables false

/-- One thing of a row. -/
structure HasF (w : World) (N g j : Nat) (r : Rs) (p pc : Nat) (qa : Option Addr) (qc : Nat) : Prop where
  at' : RsAt w g (j * 5) r (some ⟨p, 0, none⟩) pc qa qc
  rp : RowS w p r.pa
  pN : N < p
  pg : p ≠ g
  cp : r.pa.length ≤ pc ∧ pc ≤ maxLen
  qq : (∃ q, qa = some ⟨q, 0, none⟩ ∧ RowP w q r.ps ∧ (N < q ∧ q ≠ g) ∧ r.ps.length ≤ qc ∧ qc ≤ maxLen) ∨ (qa = none ∧ qc = 0 ∧ r.ps = [])
/-- A row of things behind block N. -/
structure HasV (w : World) (N g : Nat) (rs : List Rs) : Prop where
  gN : N < g
  gs : g < w.heap.size
  el : ∀ j (hj : j < rs.length), ∃ p pc qa qc, HasF w N g j rs[j] p pc qa qc
theorem HasF.heap {w w' : World} {N g j : Nat} {r : Rs} {p pc : Nat} {qa : Option Addr} {qc : Nat} (x : HasF w N g j r p pc qa qc) (hz : w.heap.size ≤ w'.heap.size) (eg : w'.heap[g]? = w.heap[g]?) (e : ∀ b, N < b → b < w.heap.size → w'.heap[b]? = w.heap[b]?) : HasF w' N g j r p pc qa qc := by
  refine ⟨x.at'.heapT eg, x.rp.heapT hz (e p x.pN x.rp.1), x.pN, x.pg, x.cp, ?_⟩
  rcases x.qq with ⟨q, h1, h2, h3, h4⟩ | h
  · exact .inl ⟨q, h1, h2.heapT hz (e q h3.1 h2.1), h3, h4⟩
  · exact .inr h
theorem HasV.heap {w w' : World} {N g : Nat} {rs : List Rs} (h : HasV w N g rs) (hz : w.heap.size ≤ w'.heap.size) (e : ∀ b, N < b → b < w.heap.size → w'.heap[b]? = w.heap[b]?) : HasV w' N g rs := by
  refine ⟨h.gN, Nat.lt_of_lt_of_le h.gs hz, fun j hj => ?_⟩
  obtain ⟨p, pc, qa, qc, x⟩ := h.el j hj
  exact ⟨p, pc, qa, qc, x.heap hz (e g h.gN h.gs) e⟩
theorem HasV.below {w w' : World} {N g : Nat} {rs : List Rs} (h : HasV w N g rs) (hb : Below w.heap.size w w') : HasV w' N g rs := h.heap hb.size (fun b _ hbl => hb.block b hbl)
theorem HasV.grown {w w' : World} {N g : Nat} {rs : List Rs} (h : HasV w N g rs) (hg : w.grownBy w' (some N)) : HasV w' N g rs := h.heap hg.size (fun b hN hbl => hg.block b hbl (by simp; omega))
theorem HasV.rss {w : World} {N g : Nat} {rs : List Rs} (h : HasV w N g rs) : Rss w w.heap.size (some ⟨g, 0, none⟩) rs := fun _ => ⟨g, 0, rfl, h.gs, fun j hj => by
  obtain ⟨p, pc, qa, qc, x⟩ := h.el j hj
  refine ⟨_, pc, qa, qc, by rw [Nat.zero_add]; exact x.at', ?_⟩
  rcases x.qq with ⟨q, rfl, h2, h3, h4, h5⟩ | ⟨rfl, rfl, h3⟩
  · exact ⟨x.rp.strs' x.rp.1, h2.pps h2.1, x.cp.1, h4, x.cp.2, h5, (fun e => by cases e), (fun e => by cases e)⟩
  · exact ⟨x.rp.strs' x.rp.1, (by rw [h3]; exact fun h0 => absurd h0 (by simp)), x.cp.1, (by rw [h3]; exact Nat.zero_le _), x.cp.2, Nat.zero_le _, (fun e => by cases e), (fun _ => rfl)⟩⟩
theorem HasT.weak {w : World} {N g : Nat} {rs : List Rs} (h : HasT w N g rs) : HasV w N g rs := ⟨h.gN, h.gs, fun j hj => by
  obtain ⟨p, pc, q, qc, x⟩ := h.el j hj
  exact ⟨p, pc, _, qc, x.at', x.rp, x.pN, x.pg, x.cp, .inl ⟨q, rfl, x.rq, ⟨x.qN, x.qg⟩, x.cq⟩⟩⟩
theorem cell_other {w : World} {g o x i : Nat} {v : Value} (h : x ≠ g ∨ i ≠ o) : (w.setCell ⟨g, o, none⟩ v).cell? ⟨x, i, none⟩ = w.cell? ⟨x, i, none⟩ := World.cell?_setCell_other _ _ _ _ (fun e => by
  have e1 := congrArg Addr.block e
  have e2 := congrArg Addr.off e
  simp at e1 e2
  omega)
/-- The other parts stay. -/
theorem HasF.parts {w : World} {N g j : Nat} {r : Rs} {p pc : Nat} {qa : Option Addr} {qc : Nat} (x : HasF w N g j r p pc qa qc) (o : Nat) (v : Value) : RowS (w.setCell ⟨g, o, none⟩ v) p r.pa ∧ ((∃ q, qa = some ⟨q, 0, none⟩ ∧ RowP (w.setCell ⟨g, o, none⟩ v) q r.ps ∧ (N < q ∧ q ≠ g) ∧ r.ps.length ≤ qc ∧ qc ≤ maxLen) ∨ (qa = none ∧ qc = 0 ∧ r.ps = [])) := by
  refine ⟨x.rp.setCell ⟨g, o, none⟩ v (fun e => x.pg e.symm), ?_⟩
  rcases x.qq with ⟨q, h1, h2, h3, h4⟩ | h
  · exact .inl ⟨q, h1, h2.setCell ⟨g, o, none⟩ v (fun e => h3.2 e.symm), h3, h4⟩
  · exact .inr h
theorem HasF.other {w : World} {N g j : Nat} {r : Rs} {p pc : Nat} {qa : Option Addr} {qc : Nat} (x : HasF w N g j r p pc qa qc) (k f : Nat) (hf : f < 5) (hk : k ≠ j) (v : Value) : HasF (w.setCell ⟨g, k * 5 + f, none⟩ v) N g j r p pc qa qc := by
  obtain ⟨c0, c1, c2, c3, c4⟩ := x.at'
  obtain ⟨h1, h2⟩ := x.parts (k * 5 + f) v
  exact ⟨⟨(cell_other (.inr (by omega))).trans c0, (cell_other (.inr (by omega))).trans c1, (cell_other (.inr (by omega))).trans c2, (cell_other (.inr (by omega))).trans c3, (cell_other (.inr (by omega))).trans c4⟩, h1, x.pN, x.pg, x.cp, h2⟩
theorem HasF.set1 {w : World} {N g k : Nat} {r : Rs} {p pc : Nat} {qa : Option Addr} {qc : Nat} (x : HasF w N g k r p pc qa qc) (b : Bool) : HasF (w.setCell ⟨g, k * 5 + 1, none⟩ (.bool b)) N g k ⟨r.pa, b, r.bo, r.ve, r.ps⟩ p pc qa qc := by
  obtain ⟨c0, c1, c2, c3, c4⟩ := x.at'
  obtain ⟨h1, h2⟩ := x.parts (k * 5 + 1) (.bool b)
  exact ⟨⟨(cell_other (.inr (by omega))).trans c0, World.cell?_setCell_same _ _ _ c1, (cell_other (.inr (by omega))).trans c2, (cell_other (.inr (by omega))).trans c3, (cell_other (.inr (by omega))).trans c4⟩, h1, x.pN, x.pg, x.cp, h2⟩
theorem HasF.set2 {w : World} {N g k : Nat} {r : Rs} {p pc : Nat} {qa : Option Addr} {qc : Nat} (x : HasF w N g k r p pc qa qc) (b : ByteArray) : HasF (w.setCell ⟨g, k * 5 + 2, none⟩ (.string b)) N g k ⟨r.pa, r.co, b, r.ve, r.ps⟩ p pc qa qc := by
  obtain ⟨c0, c1, c2, c3, c4⟩ := x.at'
  obtain ⟨h1, h2⟩ := x.parts (k * 5 + 2) (.string b)
  exact ⟨⟨(cell_other (.inr (by omega))).trans c0, (cell_other (.inr (by omega))).trans c1, World.cell?_setCell_same _ _ _ c2, (cell_other (.inr (by omega))).trans c3, (cell_other (.inr (by omega))).trans c4⟩, h1, x.pN, x.pg, x.cp, h2⟩
theorem HasF.set3 {w : World} {N g k : Nat} {r : Rs} {p pc : Nat} {qa : Option Addr} {qc : Nat} (x : HasF w N g k r p pc qa qc) (b : Int) : HasF (w.setCell ⟨g, k * 5 + 3, none⟩ (.int .i64 b)) N g k ⟨r.pa, r.co, r.bo, b, r.ps⟩ p pc qa qc := by
  obtain ⟨c0, c1, c2, c3, c4⟩ := x.at'
  obtain ⟨h1, h2⟩ := x.parts (k * 5 + 3) (.int .i64 b)
  exact ⟨⟨(cell_other (.inr (by omega))).trans c0, (cell_other (.inr (by omega))).trans c1, (cell_other (.inr (by omega))).trans c2, World.cell?_setCell_same _ _ _ c3, (cell_other (.inr (by omega))).trans c4⟩, h1, x.pN, x.pg, x.cp, h2⟩
theorem HasF.set0 {w : World} {N g k : Nat} {r : Rs} {p pc : Nat} {qa : Option Addr} {qc : Nat} (x : HasF w N g k r p pc qa qc) (g2 n2 c2 : Nat) (L : List ByteArray) (hn : n2 = L.length) (hr : RowS w g2 L) (hN : N < g2) (hg : g2 ≠ g) (h1 : n2 ≤ c2) (h2 : c2 ≤ maxLen) : HasF (w.setCell ⟨g, k * 5 + 0, none⟩ (.slice (some ⟨g2, 0, none⟩) n2 c2)) N g k ⟨L, r.co, r.bo, r.ve, r.ps⟩ g2 c2 qa qc := by
  subst hn
  obtain ⟨c0, c1, c2', c3, c4⟩ := x.at'
  obtain ⟨_, h4⟩ := x.parts (k * 5 + 0) (.slice (some ⟨g2, 0, none⟩) L.length c2)
  exact ⟨⟨World.cell?_setCell_same _ _ _ c0, (cell_other (.inr (by omega))).trans c1, (cell_other (.inr (by omega))).trans c2', (cell_other (.inr (by omega))).trans c3, (cell_other (.inr (by omega))).trans c4⟩, hr.setCell ⟨g, k * 5 + 0, none⟩ _ (fun e => hg e.symm), hN, hg, ⟨h1, h2⟩, h4⟩
/-- One thing of a row is turned. -/
theorem HasV.set {w : World} {N g : Nat} {rs : List Rs} (h : HasV w N g rs) (k : Nat) (f : Nat) (hf : f < 5) (v : Value) (r : Rs) (hx : ∃ p pc qa qc, HasF (w.setCell ⟨g, k * 5 + f, none⟩ v) N g k r p pc qa qc) : HasV (w.setCell ⟨g, k * 5 + f, none⟩ v) N g (rs.set k r) := by
  refine ⟨h.gN, by simpa using h.gs, fun j hj => ?_⟩
  have hj' : j < rs.length := by simpa using hj
  rw [List.getElem_set]
  by_cases e : k = j
  · subst e
    simp only [if_true]
    exact hx
  · rw [if_neg e]
    obtain ⟨p, pc, qa, qc, x⟩ := h.el j hj'
    exact ⟨p, pc, qa, qc, x.other k f hf e v⟩
end Go.Proofs.YtifnolomekhmfaaGreat
