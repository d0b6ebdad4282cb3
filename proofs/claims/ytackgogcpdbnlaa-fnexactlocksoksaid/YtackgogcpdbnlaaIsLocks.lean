/-
  Lists of locks, as the row hands them in.
-/
import Derived.Test.YtackgogcpdbnlaaIsLock
namespace Go.Proofs.Ytackgogcpdbnlaa
open Go.RowKit Go.ChangeShapes Go.WideShapes Go.Deep M
set_option linter.unusedVariables false

section
variable {H : Type} {enc : TypeId × Value → H} {w : World} {spare : Nat → Bool} {held : Bool}

set_option maxRecDepth 100000 in
theorem locks_of_open {fuel : Nat} {v : Value} {x : DataW H × List MemPlace} (h : DataW.trod enc Try.prog w 0 spare held fuel 53 [v] = some x) :
    ∃ (a : Option Addr) (rs : List Lk) (cap : Nat), v = .slice a rs.length cap ∧ Lks w w.heap.size a rs ∧ ShortK rs ∧ rs.length ≤ maxLen := by
  rcases DataW.trod_slice Try.underlying53 h with ⟨hcs, _⟩ | ⟨x, len, cap, elems, rest, n, hfuel, hcs, _, _, hl, hm, hlen, hel, _, _⟩
  · simp at hcs
    exact ⟨none, [], 0, by simpa using hcs, Lks.nil _ _ _, (fun _ h => by cases h), Nat.zero_le _⟩
  · simp at hcs
    subst hcs
    have ce : (Try.prog.cellsOf 43) = 5 := by kernel_rfl
    rw [ce] at hel
    have each : ∀ i, i < len → ∃ q : Lk × Option Addr × Nat, w.cell? (x.add (i * 5)) = some (.int .i64 q.1.tk) ∧ w.cell? (x.add (i * 5 + 1)) = some (.slice q.2.1 q.1.pa.length q.2.2) ∧ w.cell? (x.add (i * 5 + 2)) = some (.bool q.1.de) ∧ w.cell? (x.add (i * 5 + 3)) = some (.bool q.1.sh) ∧ w.cell? (x.add (i * 5 + 4)) = some (.int .i64 q.1.un) ∧ LkIn w w.heap.size q.1 q.2.1 q.2.2 ∧ ShortLk q.1 := by
      intro i hi
      have h1 := hel i hi
      obtain ⟨y, hy⟩ : ∃ y, elems[i]? = some y := ⟨elems[i]'(by omega), List.getElem?_eq_getElem (by omega)⟩
      rw [hy] at h1
      obtain ⟨cs', h2, h3⟩ := Option.bind_eq_some_iff.1 h1
      obtain ⟨_, hlen4, hcell⟩ := World.cells?_some h2
      obtain ⟨xs, k, hk, hxy, _, hxl, hf⟩ := DataW.trod_struct Try.underlying43 h3
      match xs, hxl, cs', hlen4 with
      | [y0, y1, y2, y3, y4], _, [v0, v1, v2, v3, v4], _ =>
        have g0 := hf 0 _ rfl
        have g1 := hf 1 _ rfl
        have g2 := hf 2 _ rfl
        have g3 := hf 3 _ rfl
        have g4 := hf 4 _ rfl
        have cb : Try.prog.cellsOf 4 = 1 := by kernel_rfl
        have ci : Try.prog.cellsOf 3 = 1 := by kernel_rfl
        have ct : Try.prog.cellsOf 25 = 1 := by kernel_rfl
        simp [cb, ci, ct] at g0 g1 g2 g3 g4
        obtain ⟨z0, e0, _⟩ := DataW.trod_int Try.underlying3 g0
        obtain ⟨pa, ss, pc, e1, hp1, hp2, hp3, hp4, hp5⟩ := strs_in_openL g1
        obtain ⟨b2, e2, _⟩ := DataW.trod_bool Try.underlying4 g2
        obtain ⟨b3, e3, _⟩ := DataW.trod_bool Try.underlying4 g3
        obtain ⟨z4, e4, _⟩ := DataW.trod_int Try.underlying3 g4
        simp at e0 e2 e3 e4
        subst e0 e1 e2 e3 e4
        have c0 := hcell 0 (by omega)
        have c1 := hcell 1 (by omega)
        have c2 := hcell 2 (by omega)
        have c3 := hcell 3 (by omega)
        have c4 := hcell 4 (by omega)
        rw [Go.Deep.add_add] at c0 c1 c2 c3 c4
        exact ⟨(⟨z0, ss, b2, b3, z4⟩, pa, pc), by simpa using c0, by simpa using c1, by simpa using c2, by simpa using c3, by simpa using c4, ⟨hp1, hp3, hp4, hp5⟩, ⟨Nat.le_trans hp3 hp4, hp2⟩⟩
    obtain ⟨qs, hql, hq⟩ := pick_lk each
    refine ⟨some x, qs.map (·.1), cap, by simp [hql], fun h0 => ?_, fun r hr => ?_, by simp; omega⟩
    · have h0' : 0 < qs.length := by simpa using h0
      obtain ⟨b, off, spot⟩ := x
      have hc := (hq 0 h0').1
      have hspot : spot = none := by simpa [Addr.add] using World.cell?_spot hc
      subst hspot
      have hb : b < w.heap.size := by
        have := World.block_lt_of_cell? w _ hc
        simpa [Addr.add] using this
      refine ⟨b, off, rfl, hb, fun j hj => ?_⟩
      have hj' : j < qs.length := by simpa using hj
      obtain ⟨c0, c1, c2, c3, c4, hin, _⟩ := hq j hj'
      rw [add_atL] at c0 c1 c2 c3 c4
      simp only [List.getElem_map]
      exact ⟨_, _, ⟨c0, c1, c2, c3, c4⟩, hin⟩
    · obtain ⟨q, hq', rfl⟩ := List.mem_map.1 hr
      obtain ⟨j, hj, rfl⟩ := List.mem_iff_getElem.1 hq'
      exact (hq j hj).2.2.2.2.2.2
end
end Go.Proofs.Ytackgogcpdbnlaa
