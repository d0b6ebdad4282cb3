/-
  A help of the laws, by program (tools/gen_help.py): Opn of Int.
-/
import Derived.Test.YtmgikfeknmbpbabRows
import Derived.Test.YtmgikfeknmbpbabGenLeaf
import Derived.Test.YtmgikfeknmbpbabGenBox
import Derived.Test.YtmgikfeknmbpbabGenPick
import Derived.WalkKit
import Derived.WalkSpells
import Derived.WalkLawsBesides
import Derived.Deep.Light
import Derived.Deep.QuietTactic
import Derived.Deep.RegionHeld3
import Derived.Lib.SmallJoins
import Derived.Deep.Slices
import Derived.OpenShut
import Derived.SliceStrings
namespace Go.Proofs.Ytmgikfeknmbpbab
open Go.RowKit Go.ChangeShapes Go.WideShapes Go.Deep M
set_option linter.unusedVariables false

section
variable {H : Type} {enc : TypeId × Value → H} {w : World} {spare : Nat → Bool} {held : Bool}
set_option maxRecDepth 100000 in
theorem openIntS_gen {fuel : Nat} {v : Value} {x : DataW H × List MemPlace} (h : DataW.trod enc Try.prog w 0 spare held fuel 23 [v] = some x) :
    ∃ l : List Int, View w w.heap.size v (.l (l.map dI)) ∧ okF (.l (l.map dI)) := by
  rcases DataW.trod_slice Try.underlying23 h with ⟨hcs, _⟩ | ⟨x, len, cap, elems, rest, n, hfuel, hcs, _, _, hl, hm, hlen, hel, _, _⟩
  · simp at hcs
    subst hcs
    exact ⟨[], .nil _ _ (fun _ => rfl) (Nat.zero_le _), by simp [okF, okRs]⟩
  · simp at hcs
    subst hcs
    have ce : (Try.prog.cellsOf 3) = 1 := by kernel_rfl
    rw [ce] at hel
    have each : ∀ i, i < len → ∃ q : Int × (Nat → Value), (∀ i' y, (dI q.1)[i']? = some y → w.cell? (x.add (i * 1 + i')) = some (q.2 i') ∧ View w w.heap.size (q.2 i') y) ∧ okR (dI q.1) := by
      intro i hi
      have h1 := hel i hi
      obtain ⟨y, hy⟩ : ∃ y, elems[i]? = some y := ⟨elems[i]'(by omega), List.getElem?_eq_getElem (by omega)⟩
      rw [hy] at h1
      obtain ⟨cs', h2, h3⟩ := Option.bind_eq_some_iff.1 h1
      obtain ⟨_, hlen4, hcell⟩ := World.cells?_some h2
      match cs', hlen4 with
      | [v0], _ =>
        have g0 := h3
        obtain ⟨z0, e0, _⟩ := DataW.trod_int Try.underlying3 g0
        simp only [List.cons.injEq, and_true] at e0
        subst e0
        refine ⟨(z0, fun i => ([.int .i64 z0][i]?).getD (.bool false)), fun i' y' hy' => ?_, ?_⟩
        · match i' with
          | 0 =>
            cases hy'
            have c := hcell 0 (by omega)
            rw [Go.Deep.add_add] at c
            exact ⟨by simpa using c, .c _⟩
          | i' + 1 => cases hy'
        · show okR [.c (.int .i64 z0)]
          simp only [okR]
          exact ⟨trivial, trivial⟩
    obtain ⟨qs, hql, hq⟩ := pick_gen each
    have hmap : ∀ j (hj : j < qs.length), cellAt ((qs.map (·.1)).map dI) j = fun i => (dI qs[j].1)[i]? := fun j hj => by
      funext i
      unfold cellAt
      rw [List.map_map, List.getElem?_map, List.getElem?_eq_getElem hj]
      rfl
    refine ⟨qs.map (·.1), ?_, ?_, ?_⟩
    · by_cases h0 : 0 < qs.length
      · obtain ⟨b, off, spot⟩ := x
        have hw0 : ∃ y0, (dI (qs[0]).1)[0]? = some y0 := ⟨_, rfl⟩
        obtain ⟨y0, hy0⟩ := hw0
        have hc := ((hq 0 h0).1 0 y0 hy0).1
        have hspot : spot = none := by simpa [Addr.add] using World.cell?_spot hc
        subst hspot
        have hb : b < w.heap.size := by
          have := World.block_lt_of_cell? w _ hc
          simpa [Addr.add] using this
        have hlen5 : len = ((qs.map (·.1)).map dI).length := by simp [hql]
        rw [hlen5]
        refine .row b off cap 1 _ (fun j i => match qs[j]? with | some q => q.2 i | none => .bool false) hb (by rw [← hlen5]; exact hl) hm (fun r hr => by obtain ⟨q, _, rfl⟩ := List.mem_map.1 hr; rfl) (fun j i y hy => ?_) (fun j i y hy => ?_)
        · by_cases hj : j < qs.length
          · rw [hmap j hj] at hy
            have h1 := ((hq j hj).1 i y hy).1
            rw [List.getElem?_eq_getElem hj]
            have ea : (⟨b, off, none⟩ : Addr).add (j * 1 + i) = ⟨b, off + j * 1 + i, none⟩ := by rw [add_pick, Nat.add_assoc]
            rw [ea] at h1
            exact h1
          · unfold cellAt at hy
            rw [List.getElem?_eq_none (by simp; omega)] at hy
            cases hy
        · by_cases hj : j < qs.length
          · rw [hmap j hj] at hy
            rw [List.getElem?_eq_getElem hj]
            exact ((hq j hj).1 i y hy).2
          · unfold cellAt at hy
            rw [List.getElem?_eq_none (by simp; omega)] at hy
            cases hy
      · have h00 : qs = [] := List.eq_nil_of_length_eq_zero (by omega)
        subst h00
        simp at hql
        subst hql
        exact .nil _ _ (fun e => by cases e) hm
    · exact okRs_of _ (fun r hr => by
        obtain ⟨q, hq1, rfl⟩ := List.mem_map.1 hr
        obtain ⟨q', hq2, rfl⟩ := List.mem_map.1 hq1
        obtain ⟨j, hj, rfl⟩ := List.mem_iff_getElem.1 hq2
        exact ⟨(hq j hj).2, by show 1 ≤ 12; omega⟩)
    · simp [hql]; omega
end
end Go.Proofs.Ytmgikfeknmbpbab
