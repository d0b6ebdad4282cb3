/-
  Sets, as the row hands them in.
-/
import Derived.Test.YtkgdmlfdlkmojaaSets
import Derived.Test.YtkgdmlfdlkmojaaIsProps
namespace Go.Proofs.Ytkgdmlfdlkmojaa
open Go.RowKit Go.ChangeShapes Go.WideShapes M
set_option linter.unusedVariables false

section
variable {H : Type} {enc : TypeId × Value → H} {w : World} {spare : Nat → Bool} {held : Bool}

set_option maxRecDepth 100000 in
theorem sets_of_open {fuel : Nat} {v : Value} {x : DataW H × List MemPlace} (h : DataW.trod enc Try.prog w 0 spare held fuel 41 [v] = some x) :
    ∃ (a : Option Addr) (ps : List Sx) (cap : Nat), v = .slice a ps.length cap ∧ Sts w w.heap.size a ps ∧ ShortSs ps ∧ ps.length ≤ cap ∧ cap ≤ maxLen ∧ (a = none → cap = 0) := by
  rcases DataW.trod_slice Try.underlying41 h with ⟨hcs, _⟩ | ⟨x, len, cap, elems, rest, n, hfuel, hcs, _, _, hl, hm, hlen, hel, _, _⟩
  · simp at hcs
    exact ⟨none, [], 0, by simpa using hcs, Sts.nil _ _ _, (fun _ h => by cases h), Nat.zero_le _, Nat.zero_le _, fun _ => rfl⟩
  · simp at hcs
    subst hcs
    have ce : (Try.prog.cellsOf 87) = 4 := by kernel_rfl
    rw [ce] at hel
    have each : ∀ i, i < len → ∃ q : Sx, w.cell? (x.add (i * 4)) = some (.bool q.1) ∧ w.cell? (x.add (i * 4 + 1)) = some (.string q.2.1) ∧ w.cell? (x.add (i * 4 + 2)) = some (.string q.2.2.1) ∧ w.cell? (x.add (i * 4 + 3)) = some (.string q.2.2.2) ∧ q.2.1.size ≤ maxLen ∧ q.2.2.1.size ≤ maxLen ∧ q.2.2.2.size ≤ maxLen := by
      intro i hi
      have h1 := hel i hi
      obtain ⟨y, hy⟩ : ∃ y, elems[i]? = some y := ⟨elems[i]'(by omega), List.getElem?_eq_getElem (by omega)⟩
      rw [hy] at h1
      obtain ⟨cs', h2, h3⟩ := Option.bind_eq_some_iff.1 h1
      obtain ⟨_, hlen4, hcell⟩ := World.cells?_some h2
      obtain ⟨xs, k, hk, hxy, _, hxl, hf⟩ := DataW.trod_struct Try.underlying87 h3
      match xs, hxl, cs', hlen4 with
      | [yd, yp], _, [vd, v0, v1, v2], _ =>
        have gd := hf 0 _ rfl
        have gp := hf 1 _ rfl
        have cs : Try.prog.cellsOf 9 = 1 := by kernel_rfl
        have cb : Try.prog.cellsOf 4 = 1 := by kernel_rfl
        have cp : Try.prog.cellsOf 84 = 3 := by kernel_rfl
        simp [cb] at gd
        simp [cp] at gp
        obtain ⟨bd, ed, _⟩ := DataW.trod_bool Try.underlying4 gd
        obtain ⟨zs, k2, _, _, _, hzl, hg⟩ := DataW.trod_struct Try.underlying84 gp
        match zs, hzl with
        | [y0, y1, y2], _ =>
          have g0 := hg 0 _ rfl
          have g1 := hg 1 _ rfl
          have g2 := hg 2 _ rfl
          simp [cs] at g0 g1 g2
          obtain ⟨s0, e0, _, w0⟩ := DataW.trod_string Try.underlying9 g0
          obtain ⟨s1, e1, _, w1⟩ := DataW.trod_string Try.underlying9 g1
          obtain ⟨s2, e2, _, w2⟩ := DataW.trod_string Try.underlying9 g2
          simp at e0 e1 e2 ed
          subst e0 e1 e2 ed
          have c0 := hcell 0 (by omega)
          have c1 := hcell 1 (by omega)
          have c2 := hcell 2 (by omega)
          have c3 := hcell 3 (by omega)
          rw [Go.Deep.add_add] at c0 c1 c2 c3
          exact ⟨(bd, s0, s1, s2), by simpa using c0, by simpa using c1, by simpa using c2, by simpa using c3, w0, w1, w2⟩
    obtain ⟨qs, hql, hq⟩ := pick_res each
    refine ⟨some x, qs, cap, by rw [hql], fun h0 => ?_, fun p hp => ?_, by omega, hm, fun e => by cases e⟩
    · obtain ⟨b, off, spot⟩ := x
      have hc := (hq 0 h0).1
      have hspot : spot = none := by simpa [Addr.add] using World.cell?_spot hc
      subst hspot
      have hb : b < w.heap.size := by
        have := World.block_lt_of_cell? w _ hc
        simpa [Addr.add] using this
      refine ⟨b, off, rfl, hb, fun j hj => ?_⟩
      obtain ⟨c0, c1, c2, c3, _⟩ := hq j hj
      rw [add_at] at c0 c1 c2 c3
      exact ⟨c0, c1, c2, c3⟩
    · obtain ⟨j, hj, rfl⟩ := List.mem_iff_getElem.1 hp
      exact (hq j hj).2.2.2.2
end
end Go.Proofs.Ytkgdmlfdlkmojaa
