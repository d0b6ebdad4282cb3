/-
  Things, and what is known of them, as the row hands them in.
-/
import Derived.Test.YtkgdmlfdlkmojaaGreatMathFind
import Derived.Test.YtkgdmlfdlkmojaaGreatIsProps
import Derived.Lib.SmallJoins
import Derived.Deep.Slices
import Derived.OpenShut
import Derived.SliceStrings
namespace Go.Proofs.YtkgdmlfdlkmojaaGreat
open Go.RowKit Go.ChangeShapes Go.WideShapes M
set_option linter.unusedVariables false

section
variable {H : Type} {enc : TypeId × Value → H} {w : World} {spare : Nat → Bool} {held : Bool}

/-- A list of texts within a thing. -/
theorem strs_in_open {fuel : Nat} {v : Value} {x : DataW H × List MemPlace} (h : DataW.trod enc Tryz.prog w 0 spare held fuel 23 [v] = some x) :
    ∃ (a : Option Addr) (ss : List ByteArray) (cap : Nat), v = .slice a ss.length cap ∧ Strs w w.heap.size a ss ∧ Short ss ∧ ss.length ≤ cap ∧ cap ≤ maxLen ∧ (a = none → cap = 0) := by
  rcases open_strings Tryz.underlying23 Tryz.underlying9 (by kernel_rfl) h with ⟨hcs, _⟩ | ⟨x, l, c, zs, hcs, _, hl, hm, hz, _, hcell, hwz⟩
  · simp at hcs
    exact ⟨none, [], 0, by simpa using hcs, fun h => absurd h (Nat.lt_irrefl _), (fun _ h => by cases h), Nat.zero_le _, Nat.zero_le _, fun _ => rfl⟩
  · simp at hcs
    subst hcs
    have hz' : l ≤ zs.length := by rw [hz]; split <;> omega
    have hlen : (zs.take l).length = l := by rw [List.length_take]; omega
    refine ⟨some x, zs.take l, c, by rw [hlen], fun h0 => ?_, fun s hs => hwz s (List.mem_of_mem_take hs), by omega, hm, fun e => by cases e⟩
    obtain ⟨b, off, spot⟩ := x
    have hc := hcell 0 (by omega)
    have hspot : spot = none := by simpa [Addr.add] using World.cell?_spot hc
    subst hspot
    have hb : b < w.heap.size := by
      have := World.block_lt_of_cell? w _ hc
      simpa [Addr.add] using this
    refine ⟨b, off, rfl, hb, fun j hj => ?_⟩
    have h1 := hcell j (by omega)
    rw [add_at] at h1
    rw [h1, List.getElem_take]
    simp [List.getD, List.getElem?_eq_getElem (show j < zs.length by omega)]

set_option maxRecDepth 100000 in
theorem ress_of_open {fuel : Nat} {v : Value} {x : DataW H × List MemPlace} (h : DataW.trod enc Tryz.prog w 0 spare held fuel 22 [v] = some x) :
    ∃ (a : Option Addr) (rs : List Rs) (cap : Nat), v = .slice a rs.length cap ∧ Rss w w.heap.size a rs ∧ ShortT rs ∧ rs.length ≤ maxLen := by
  rcases DataW.trod_slice Tryz.underlying22 h with ⟨hcs, _⟩ | ⟨x, len, cap, elems, rest, n, hfuel, hcs, _, _, hl, hm, hlen, hel, _, _⟩
  · simp at hcs
    exact ⟨none, [], 0, by simpa using hcs, Rss.nil _ _ _, (fun _ h => by cases h), Nat.zero_le _⟩
  · simp at hcs
    subst hcs
    have ce : (Tryz.prog.cellsOf 44) = 5 := by kernel_rfl
    rw [ce] at hel
    have each : ∀ i, i < len → ∃ q : Rs × Option Addr × Nat × Option Addr × Nat, w.cell? (x.add (i * 5)) = some (.slice q.2.1 q.1.pa.length q.2.2.1) ∧ w.cell? (x.add (i * 5 + 1)) = some (.bool q.1.co) ∧ w.cell? (x.add (i * 5 + 2)) = some (.string q.1.bo) ∧ w.cell? (x.add (i * 5 + 3)) = some (.int .i64 q.1.ve) ∧ w.cell? (x.add (i * 5 + 4)) = some (.slice q.2.2.2.1 q.1.ps.length q.2.2.2.2) ∧ RsIn w w.heap.size q.1 q.2.1 q.2.2.1 q.2.2.2.1 q.2.2.2.2 ∧ ShortRs q.1 := by
      intro i hi
      have h1 := hel i hi
      obtain ⟨y, hy⟩ : ∃ y, elems[i]? = some y := ⟨elems[i]'(by omega), List.getElem?_eq_getElem (by omega)⟩
      rw [hy] at h1
      obtain ⟨cs', h2, h3⟩ := Option.bind_eq_some_iff.1 h1
      obtain ⟨_, hlen4, hcell⟩ := World.cells?_some h2
      obtain ⟨xs, k, hk, hxy, _, hxl, hf⟩ := DataW.trod_struct Tryz.underlying44 h3
      match xs, hxl, cs', hlen4 with
      | [y0, y1, y2, y3, y4], _, [v0, v1, v2, v3, v4], _ =>
        have g0 := hf 0 _ rfl
        have g1 := hf 1 _ rfl
        have g2 := hf 2 _ rfl
        have g3 := hf 3 _ rfl
        have g4 := hf 4 _ rfl
        have cs : Tryz.prog.cellsOf 9 = 1 := by kernel_rfl
        have cb : Tryz.prog.cellsOf 4 = 1 := by kernel_rfl
        have ci : Tryz.prog.cellsOf 3 = 1 := by kernel_rfl
        have cn : Tryz.prog.cellsOf 42 = 1 := by kernel_rfl
        have ct : Tryz.prog.cellsOf 23 = 1 := by kernel_rfl
        simp [cs, cb, ci, cn, ct] at g0 g1 g2 g3 g4
        obtain ⟨pa, ss, pc, e0, hp1, hp2, hp3, hp4, hp5⟩ := strs_in_open g0
        obtain ⟨bb, e1, _⟩ := DataW.trod_bool Tryz.underlying4 g1
        obtain ⟨s2, e2, _, w2⟩ := DataW.trod_string Tryz.underlying9 g2
        obtain ⟨z3, e3, _⟩ := DataW.trod_int Tryz.underlying3 g3
        obtain ⟨qa, ps, qc, e4, hq1, hq2, hq3, hq4, hq5⟩ := props_of_open g4
        simp at e1 e2 e3
        subst e0 e1 e2 e3 e4
        have c0 := hcell 0 (by omega)
        have c1 := hcell 1 (by omega)
        have c2 := hcell 2 (by omega)
        have c3 := hcell 3 (by omega)
        have c4 := hcell 4 (by omega)
        rw [Go.Deep.add_add] at c0 c1 c2 c3 c4
        exact ⟨(⟨ss, bb, s2, z3, ps⟩, pa, pc, qa, qc), by simpa using c0, by simpa using c1, by simpa using c2, by simpa using c3, by simpa using c4, ⟨hp1, hq1, hp3, hq3, hp4, hq4, hp5, hq5⟩, ⟨Nat.le_trans hp3 hp4, hp2, w2, Nat.le_trans hq3 hq4, hq2⟩⟩
    obtain ⟨qs, hql, hq⟩ := pick_res each
    refine ⟨some x, qs.map (·.1), cap, by simp [hql], fun h0 => ?_, fun r hr => ?_, by simp; omega⟩
    · have h0' : 0 < qs.length := by simpa using h0
      obtain ⟨b, off, spot⟩ := x
      have hc := (hq 0 h0').1
      have hspot : spot = none := by simpa [Addr.add] using World.cell?_spot hc
      subst hspot
      have hb : b < w.heap.size := by
        have := World.block_lt_of_cell? w _ hc
        simpa [Addr.add] using this
      refine ⟨b, off, rfl, hb, fun j hj => ?_⟩
      have hj' : j < qs.length := by simpa using hj
      obtain ⟨c0, c1, c2, c3, c4, hin, _⟩ := hq j hj'
      rw [add_at] at c0 c1 c2 c3 c4
      simp only [List.getElem_map]
      exact ⟨_, _, _, _, ⟨c0, c1, c2, c3, c4⟩, hin⟩
    · obtain ⟨q, hq', rfl⟩ := List.mem_map.1 hr
      obtain ⟨j, hj, rfl⟩ := List.mem_iff_getElem.1 hq'
      exact (hq j hj).2.2.2.2.2.2
end
end Go.Proofs.YtkgdmlfdlkmojaaGreat
