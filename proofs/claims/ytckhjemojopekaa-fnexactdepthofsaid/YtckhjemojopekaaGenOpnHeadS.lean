/-
  A help of the laws, by program (tools/gen_help.py): Opn of Head.
-/
import Derived.Test.YtckhjemojopekaaRows
import Derived.Test.YtckhjemojopekaaGenLeaf
import Derived.Test.YtckhjemojopekaaGenBox
import Derived.Test.YtckhjemojopekaaGenPick
import Derived.Test.YtckhjemojopekaaGenHead
import Derived.WalkKit
import Derived.WalkSpells
import Derived.WalkLawsBesides
import Derived.Deep.Light
import Derived.Deep.QuietTactic
import Derived.Deep.RegionHeld3
import Derived.Lib.SmallJoins
import Derived.Deep.Slices
import Derived.OpenShut
import Derived.SliceStrings
namespace Go.Proofs.Ytckhjemojopekaa
open Go.RowKit Go.ChangeShapes Go.WideShapes Go.Deep M
set_option linter.unusedVariables false

section
variable {H : Type} {enc : TypeId × Value → H} {w : World} {spare : Nat → Bool} {held : Bool}
set_option maxRecDepth 100000 in
theorem openHeadS_gen {fuel : Nat} {v : Value} {x : DataW H × List MemPlace} (h : DataW.trod enc Try.prog w 0 spare held fuel 22 [v] = some x) :
    ∃ l : List Hd, View w w.heap.size v (.l (l.map dHd)) ∧ okF (.l (l.map dHd)) := by
  rcases DataW.trod_slice Try.underlying22 h with ⟨hcs, _⟩ | ⟨x, len, cap, elems, rest, n, hfuel, hcs, _, _, hl, hm, hlen, hel, _, _⟩
  · simp at hcs
    subst hcs
    exact ⟨[], .nil _ _ (fun _ => rfl) (Nat.zero_le _), by simp [okF, okRs]⟩
  · simp at hcs
    subst hcs
    have ce : (Try.prog.cellsOf 81) = 2 := by kernel_rfl
    rw [ce] at hel
    have each : ∀ i, i < len → ∃ q : Hd × (Nat → Value), (∀ i' y, (dHd q.1)[i']? = some y → w.cell? (x.add (i * 2 + i')) = some (q.2 i') ∧ View w w.heap.size (q.2 i') y) ∧ okR (dHd q.1) := by
      intro i hi
      have h1 := hel i hi
      obtain ⟨y, hy⟩ : ∃ y, elems[i]? = some y := ⟨elems[i]'(by omega), List.getElem?_eq_getElem (by omega)⟩
      rw [hy] at h1
      obtain ⟨cs', h2, h3⟩ := Option.bind_eq_some_iff.1 h1
      obtain ⟨_, hlen4, hcell⟩ := World.cells?_some h2
      obtain ⟨xs, k, hk, hxy, _, hxl, hf⟩ := DataW.trod_struct Try.underlying81 h3
      match xs, hxl, cs', hlen4 with
      | [y0, y1], _, [v0, v1], _ =>
        have g0 := hf 0 _ rfl
        have g1 := hf 1 _ rfl
        have k0 : Try.prog.cellsOf 9 = 1 := by kernel_rfl
        simp [k0] at g0 g1
        obtain ⟨z0, e0, _, s0⟩ := DataW.trod_string Try.underlying9 g0
        obtain ⟨z1, e1, _, s1⟩ := DataW.trod_string Try.underlying9 g1
        simp only [List.cons.injEq, and_true] at e0 e1
        subst e0 e1
        refine ⟨(⟨z0, z1⟩, fun i => ([.string z0, .string z1][i]?).getD (.bool false)), fun i' y' hy' => ?_, ?_⟩
        · match i' with
          | 0 =>
            cases hy'
            have c := hcell 0 (by omega)
            rw [Go.Deep.add_add] at c
            exact ⟨by simpa using c, .c _⟩
          | 1 =>
            cases hy'
            have c := hcell 1 (by omega)
            rw [Go.Deep.add_add] at c
            exact ⟨by simpa using c, .c _⟩
          | i' + 2 => cases hy'
        · show okR [.c (.string z0), .c (.string z1)]
          simp only [okR]
          exact ⟨s0, s1, trivial⟩
    obtain ⟨qs, hql, hq⟩ := pick_gen each
    have hmap : ∀ j (hj : j < qs.length), cellAt ((qs.map (·.1)).map dHd) j = fun i => (dHd qs[j].1)[i]? := fun j hj => by
      funext i
      unfold cellAt
      rw [List.map_map, List.getElem?_map, List.getElem?_eq_getElem hj]
      rfl
    refine ⟨qs.map (·.1), ?_, ?_, ?_⟩
    · by_cases h0 : 0 < qs.length
      · obtain ⟨b, off, spot⟩ := x
        have hw0 : ∃ y0, (dHd (qs[0]).1)[0]? = some y0 := ⟨_, rfl⟩
        obtain ⟨y0, hy0⟩ := hw0
        have hc := ((hq 0 h0).1 0 y0 hy0).1
        have hspot : spot = none := by simpa [Addr.add] using World.cell?_spot hc
        subst hspot
        have hb : b < w.heap.size := by
          have := World.block_lt_of_cell? w _ hc
          simpa [Addr.add] using this
        have hlen5 : len = ((qs.map (·.1)).map dHd).length := by simp [hql]
        rw [hlen5]
        refine .row b off cap 2 _ (fun j i => match qs[j]? with | some q => q.2 i | none => .bool false) hb (by rw [← hlen5]; exact hl) hm (fun r hr => by obtain ⟨q, _, rfl⟩ := List.mem_map.1 hr; rfl) (fun j i y hy => ?_) (fun j i y hy => ?_)
        · by_cases hj : j < qs.length
          · rw [hmap j hj] at hy
            have h1 := ((hq j hj).1 i y hy).1
            rw [List.getElem?_eq_getElem hj]
            have ea : (⟨b, off, none⟩ : Addr).add (j * 2 + i) = ⟨b, off + j * 2 + i, none⟩ := by rw [add_pick, Nat.add_assoc]
            rw [ea] at h1
            exact h1
          · unfold cellAt at hy
            rw [List.getElem?_eq_none (by simp; omega)] at hy
            cases hy
        · by_cases hj : j < qs.length
          · rw [hmap j hj] at hy
            rw [List.getElem?_eq_getElem hj]
            exact ((hq j hj).1 i y hy).2
          · unfold cellAt at hy
            rw [List.getElem?_eq_none (by simp; omega)] at hy
            cases hy
      · have h00 : qs = [] := List.eq_nil_of_length_eq_zero (by omega)
        subst h00
        simp at hql
        subst hql
        exact .nil _ _ (fun e => by cases e) hm
    · exact okRs_of _ (fun r hr => by
        obtain ⟨q, hq1, rfl⟩ := List.mem_map.1 hr
        obtain ⟨q', hq2, rfl⟩ := List.mem_map.1 hq1
        obtain ⟨j, hj, rfl⟩ := List.mem_iff_getElem.1 hq2
        exact ⟨(hq j hj).2, by show 2 ≤ 12; omega⟩)
    · simp [hql]; omega
end
end Go.Proofs.Ytckhjemojopekaa
