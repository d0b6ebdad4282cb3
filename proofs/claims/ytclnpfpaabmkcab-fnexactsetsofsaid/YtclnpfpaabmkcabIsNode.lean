/-
  Nodes as the row hands them in.
-/
import Derived.Test.YtclnpfpaabmkcabNodes
import Derived.Lib.SmallJoins
import Derived.Deep.Slices
import Derived.OpenShut
namespace Go.Proofs.Ytclnpfpaabmkcab
open Go.RowKit Go.ChangeShapes Go.WideShapes M
set_option linter.unusedVariables false

theorem pick_nodes {α : Type} {p : Nat → α → Prop} : ∀ {len : Nat}, (∀ i, i < len → ∃ q, p i q) → ∃ hs : List α, hs.length = len ∧ ∀ j (hj : j < hs.length), p j hs[j] := by
  intro len
  induction len with
  | zero => intro _; exact ⟨[], rfl, fun j hj => absurd hj (Nat.not_lt_zero _)⟩
  | succ k ih =>
    intro each
    obtain ⟨hs, hlen, hq⟩ := ih (fun i hi => each i (by omega))
    obtain ⟨q, hqk⟩ := each k (by omega)
    refine ⟨hs ++ [q], by simp [hlen], fun j hj => ?_⟩
    by_cases e : j < hs.length
    · rw [List.getElem_append_left e]; exact hq j e
    · have : j = k := by simp [hlen] at hj; omega
      subst this
      rw [List.getElem_append_right (by omega)]
      simp only [hlen, Nat.sub_self, List.getElem_cons_zero]
      exact hqk

section
variable {H : Type} {enc : TypeId × Value → H} {w : World} {spare : Nat → Bool} {held : Bool}

set_option maxRecDepth 100000 in
theorem nodes_of_open : ∀ {fuel : Nat} {v : Value} {x : DataW H × List MemPlace}, DataW.trod enc Try.prog w 0 spare held fuel 50 [v] = some x →
    ∃ (a : Option Addr) (ks : List Nd) (cap : Nat), v = .slice a ks.length cap ∧ Nds w w.heap.size a ks ∧ shortK ks ∧ ks.length ≤ maxLen := by
  intro fuel
  induction fuel using Nat.strongRecOn with
  | _ fuel ih =>
  intro v x h
  rcases DataW.trod_slice Try.underlying50 h with ⟨hcs, _⟩ | ⟨x, len, cap, elems, rest, n, hfuel, hcs, _, _, hl, hm, hlen, hel, _, _⟩
  · simp at hcs
    exact ⟨none, [], 0, by simpa using hcs, .nil _, by rw [shortK]; trivial, Nat.zero_le _⟩
  · simp at hcs
    subst hcs
    have ce : (Try.prog.cellsOf 52) = 4 := by kernel_rfl
    rw [ce] at hel
    have each : ∀ i, i < len → ∃ q : Nd × Option Addr × Nat, w.cell? (x.add (i * 4)) = some (.string q.1.ns) ∧ w.cell? (x.add (i * 4 + 1)) = some (.string q.1.nm) ∧ w.cell? (x.add (i * 4 + 2)) = some (.string q.1.tx) ∧ w.cell? (x.add (i * 4 + 3)) = some (.slice q.2.1 q.1.ks.length q.2.2) ∧ Nds w w.heap.size q.2.1 q.1.ks ∧ q.1.short := by
      intro i hi
      have h1 := hel i hi
      obtain ⟨y, hy⟩ : ∃ y, elems[i]? = some y := ⟨elems[i]'(by omega), List.getElem?_eq_getElem (by omega)⟩
      rw [hy] at h1
      obtain ⟨cs', h2, h3⟩ := Option.bind_eq_some_iff.1 h1
      obtain ⟨_, hlen4, hcell⟩ := World.cells?_some h2
      obtain ⟨xs, k, hk, hxy, _, hxl, hf⟩ := DataW.trod_struct Try.underlying52 h3
      match xs, hxl, cs', hlen4 with
      | [y0, y1, y2, y3], _, [v0, v1, v2, v3], _ =>
        have g0 := hf 0 _ rfl
        have g1 := hf 1 _ rfl
        have g2 := hf 2 _ rfl
        have g3 := hf 3 _ rfl
        have cs : Try.prog.cellsOf 9 = 1 := by kernel_rfl
        have cn : Try.prog.cellsOf 50 = 1 := by kernel_rfl
        simp [cs, cn] at g0 g1 g2 g3
        obtain ⟨s0, e0, _, w0⟩ := DataW.trod_string Try.underlying9 g0
        obtain ⟨s1, e1, _, w1⟩ := DataW.trod_string Try.underlying9 g1
        obtain ⟨s2, e2, _, w2⟩ := DataW.trod_string Try.underlying9 g2
        obtain ⟨a, ks, cap', e3, hn, hs, hkl⟩ := ih k (by omega) g3
        simp at e0 e1 e2
        subst e0 e1 e2 e3
        have c0 := hcell 0 (by omega)
        have c1 := hcell 1 (by omega)
        have c2 := hcell 2 (by omega)
        have c3 := hcell 3 (by omega)
        rw [Go.Deep.add_add] at c0 c1 c2 c3
        exact ⟨(.mk s0 s1 s2 ks, a, cap'), by simpa [Nd.ns] using c0, by simpa [Nd.nm] using c1, by simpa [Nd.tx] using c2, by simpa [Nd.ks] using c3, hn, by rw [Nd.short]; exact ⟨w0, w1, w2, hkl, hs⟩⟩
    obtain ⟨qs, hql, hq⟩ := pick_nodes each
    refine ⟨some x, qs.map (·.1), cap, by simp [hql], ?_, shortK_of _ fun j hj => ?_, by simp; omega⟩
    · by_cases h0 : 0 < qs.length
      · obtain ⟨b, off, spot⟩ := x
        have hc := (hq 0 h0).1
        have hspot : spot = none := by simpa [Addr.add] using World.cell?_spot hc
        subst hspot
        have hb : b < w.heap.size := by
          have := World.block_lt_of_cell? w _ hc
          simpa [Addr.add] using this
        have e : ∀ n, (⟨b, off, none⟩ : Addr).add n = ⟨b, off + n, none⟩ := fun n => by unfold Addr.add; split <;> simp_all
        refine .row b off _ (fun j => if h : j < qs.length then (qs[j]).2.1 else none) (fun j => if h : j < qs.length then (qs[j]).2.2 else 0) hb (fun j hj => ?_) (fun j hj => ?_)
        · have hj' : j < qs.length := by simpa using hj
          obtain ⟨c0, c1, c2, c3, _, _⟩ := hq j hj'
          rw [e] at c0 c1 c2 c3
          simp only [List.getElem_map, hj', dif_pos, ← Nat.add_assoc] at *
          exact ⟨c0, c1, c2, c3⟩
        · have hj' : j < qs.length := by simpa using hj
          have := (hq j hj').2.2.2.2.1
          simp only [List.getElem_map, hj', dif_pos]
          exact this
      · have : qs = [] := by cases qs with | nil => rfl | cons a b => simp at h0
        subst this
        exact .nil _
    · have hj' : j < qs.length := by simpa using hj
      rw [List.getElem_map]
      exact (hq j hj').2.2.2.2.2

set_option maxRecDepth 100000 in
theorem node_of_open {r : Reach} {b0 : Nat} {v : Value} {d : DataW H} {p : List MemPlace} (hv : Value.okWide Try.prog w r b0 52 v) (h : DataW.Trod enc Try.prog w 0 spare held 52 v d p) :
    ∃ (a : Option Addr) (n : Nd) (cap : Nat), v = .agg #[.string n.ns, .string n.nm, .string n.tx, .slice a n.ks.length cap] ∧ Nds w w.heap.size a n.ks ∧ n.short := by
  obtain ⟨v0, v1, v2, v3, y0, y1, y2, y3, n, rfl, _, _, h0, h1, h2, h3⟩ := Joins.open_agg4 Try.underlying52 (by kernel_rfl) (by kernel_rfl) hv h
  have g0 : DataW.trod enc Try.prog w 0 spare held n 9 [v0] = some y0 := h0
  have g1 : DataW.trod enc Try.prog w 0 spare held n 9 [v1] = some y1 := h1
  have g2 : DataW.trod enc Try.prog w 0 spare held n 9 [v2] = some y2 := h2
  have g3 : DataW.trod enc Try.prog w 0 spare held n 50 [v3] = some y3 := h3
  obtain ⟨s0, e0, _, w0⟩ := DataW.trod_string Try.underlying9 g0
  obtain ⟨s1, e1, _, w1⟩ := DataW.trod_string Try.underlying9 g1
  obtain ⟨s2, e2, _, w2⟩ := DataW.trod_string Try.underlying9 g2
  obtain ⟨a, ks, cap, rfl, hh, hsh, hl⟩ := nodes_of_open g3
  simp at e0 e1 e2
  subst e0 e1 e2
  exact ⟨a, .mk s0 s1 s2 ks, cap, rfl, hh, by rw [Nd.short]; exact ⟨w0, w1, w2, hl, hsh⟩⟩
end
end Go.Proofs.Ytclnpfpaabmkcab
