/-
  A help of the laws, by program (tools/gen_help.py): Opn of String.
  A help of the laws, by program (tools/gen_help.py): Opn of Prop.
  A help of the laws, by program (tools/gen_help.py): Opn of Res.
  A help of the laws, by program (tools/gen_help.py): Opn of Lock.
  A help of the laws, by program (tools/gen_help.py): Opn of Int.
  A help of the laws, by program (tools/gen_help.py): Op1 of Srv.
  A help of the laws, by program (tools/gen_help.py): Opn of Head.
  A help of the laws, by program (tools/gen_help.py): Op1 of Req.
-/
import Derived.Test.YtfhcniifennfbaaGreatDoorRows
import Derived.Test.YtfhcniifennfbaaGreatDoorMathMark2
import Derived.WalkKit
import Derived.WalkSpells
import Derived.WalkLawsBesides
import Derived.Deep.Light
import Derived.Deep.QuietTactic
import Derived.Deep.RegionHeld3
import Derived.Lib.SmallJoins
import Derived.Deep.Slices
import Derived.OpenShut
import Derived.SliceStrings
import Derived.Test.YtfhcniifennfbaaGreatDoorSvIn
import Derived.Test.YtfhcniifennfbaaGreatDoorGenLock
import Derived.Test.YtfhcniifennfbaaGreatDoorUnq
namespace Go.Proofs.YtfhcniifennfbaaGreatDoor
open Go.RowKit Go.ChangeShapes Go.WideShapes Go.Deep M
set_option linter.unusedVariables false

section
variable {H : Type} {enc : TypeId × Value → H} {w : World} {spare : Nat → Bool} {held : Bool}
set_option maxRecDepth 100000 in
theorem openStringS_gen {fuel : Nat} {v : Value} {x : DataW H × List MemPlace} (h : DataW.trod enc Tryz.prog w 0 spare held fuel 32 [v] = some x) :
    ∃ l : List ByteArray, View w w.heap.size v (.l (l.map dS)) ∧ okF (.l (l.map dS)) := by
  rcases DataW.trod_slice Tryz.underlying32 h with ⟨hcs, _⟩ | ⟨x, len, cap, elems, rest, n, hfuel, hcs, _, _, hl, hm, hlen, hel, _, _⟩
  · simp at hcs
    subst hcs
    exact ⟨[], .nil _ _ (fun _ => rfl) (Nat.zero_le _), by simp [okF, okRs]⟩
  · simp at hcs
    subst hcs
    have ce : (Tryz.prog.cellsOf 9) = 1 := by kernel_rfl
    rw [ce] at hel
    have each : ∀ i, i < len → ∃ q : ByteArray × (Nat → Value), (∀ i' y, (dS q.1)[i']? = some y → w.cell? (x.add (i * 1 + i')) = some (q.2 i') ∧ View w w.heap.size (q.2 i') y) ∧ okR (dS q.1) := by
      intro i hi
      have h1 := hel i hi
      obtain ⟨y, hy⟩ : ∃ y, elems[i]? = some y := ⟨elems[i]'(by omega), List.getElem?_eq_getElem (by omega)⟩
      rw [hy] at h1
      obtain ⟨cs', h2, h3⟩ := Option.bind_eq_some_iff.1 h1
      obtain ⟨_, hlen4, hcell⟩ := World.cells?_some h2
      match cs', hlen4 with
      | [v0], _ =>
        have g0 := h3
        obtain ⟨z0, e0, _, s0⟩ := DataW.trod_string Tryz.underlying9 g0
        simp only [List.cons.injEq, and_true] at e0
        subst e0
        refine ⟨(z0, fun i => ([.string z0][i]?).getD (.bool false)), fun i' y' hy' => ?_, ?_⟩
        · match i' with
          | 0 =>
            cases hy'
            have c := hcell 0 (by omega)
            rw [Go.Deep.add_add] at c
            exact ⟨by simpa using c, .c _⟩
          | i' + 1 => cases hy'
        · show okR [.c (.string z0)]
          simp only [okR]
          exact ⟨s0, trivial⟩
    obtain ⟨qs, hql, hq⟩ := pick_gen each
    have hmap : ∀ j (hj : j < qs.length), cellAt ((qs.map (·.1)).map dS) j = fun i => (dS qs[j].1)[i]? := fun j hj => by
      funext i
      unfold cellAt
      rw [List.map_map, List.getElem?_map, List.getElem?_eq_getElem hj]
      rfl
    refine ⟨qs.map (·.1), ?_, ?_, ?_⟩
    · by_cases h0 : 0 < qs.length
      · obtain ⟨b, off, spot⟩ := x
        have hw0 : ∃ y0, (dS (qs[0]).1)[0]? = some y0 := ⟨_, rfl⟩
        obtain ⟨y0, hy0⟩ := hw0
        have hc := ((hq 0 h0).1 0 y0 hy0).1
        have hspot : spot = none := by simpa [Addr.add] using World.cell?_spot hc
        subst hspot
        have hb : b < w.heap.size := by
          have := World.block_lt_of_cell? w _ hc
          simpa [Addr.add] using this
        have hlen5 : len = ((qs.map (·.1)).map dS).length := by simp [hql]
        rw [hlen5]
        refine .row b off cap 1 _ (fun j i => match qs[j]? with | some q => q.2 i | none => .bool false) hb (by rw [← hlen5]; exact hl) hm (fun r hr => by obtain ⟨q, _, rfl⟩ := List.mem_map.1 hr; rfl) (fun j i y hy => ?_) (fun j i y hy => ?_)
        · by_cases hj : j < qs.length
          · rw [hmap j hj] at hy
            have h1 := ((hq j hj).1 i y hy).1
            rw [List.getElem?_eq_getElem hj]
            have ea : (⟨b, off, none⟩ : Addr).add (j * 1 + i) = ⟨b, off + j * 1 + i, none⟩ := by rw [add_pick, Nat.add_assoc]
            rw [ea] at h1
            exact h1
          · unfold cellAt at hy
            rw [List.getElem?_eq_none (by simp; omega)] at hy
            cases hy
        · by_cases hj : j < qs.length
          · rw [hmap j hj] at hy
            rw [List.getElem?_eq_getElem hj]
            exact ((hq j hj).1 i y hy).2
          · unfold cellAt at hy
            rw [List.getElem?_eq_none (by simp; omega)] at hy
            cases hy
      · have h00 : qs = [] := List.eq_nil_of_length_eq_zero (by omega)
        subst h00
        simp at hql
        subst hql
        exact .nil _ _ (fun e => by cases e) hm
    · exact okRs_of _ (fun r hr => by
        obtain ⟨q, hq1, rfl⟩ := List.mem_map.1 hr
        obtain ⟨q', hq2, rfl⟩ := List.mem_map.1 hq1
        obtain ⟨j, hj, rfl⟩ := List.mem_iff_getElem.1 hq2
        exact ⟨(hq j hj).2, by show 1 ≤ 12; omega⟩)
    · simp [hql]; omega
end
end Go.Proofs.YtfhcniifennfbaaGreatDoor
namespace Go.Proofs.YtfhcniifennfbaaGreatDoor
open Go.RowKit Go.ChangeShapes Go.WideShapes Go.Deep M
set_option linter.unusedVariables false

section
variable {H : Type} {enc : TypeId × Value → H} {w : World} {spare : Nat → Bool} {held : Bool}
set_option maxRecDepth 100000 in
theorem openPropS_gen {fuel : Nat} {v : Value} {x : DataW H × List MemPlace} (h : DataW.trod enc Tryz.prog w 0 spare held fuel 80 [v] = some x) :
    ∃ l : List Pp, View w w.heap.size v (.l (l.map dPp)) ∧ okF (.l (l.map dPp)) := by
  rcases DataW.trod_slice Tryz.underlying80 h with ⟨hcs, _⟩ | ⟨x, len, cap, elems, rest, n, hfuel, hcs, _, _, hl, hm, hlen, hel, _, _⟩
  · simp at hcs
    subst hcs
    exact ⟨[], .nil _ _ (fun _ => rfl) (Nat.zero_le _), by simp [okF, okRs]⟩
  · simp at hcs
    subst hcs
    have ce : (Tryz.prog.cellsOf 149) = 3 := by kernel_rfl
    rw [ce] at hel
    have each : ∀ i, i < len → ∃ q : Pp × (Nat → Value), (∀ i' y, (dPp q.1)[i']? = some y → w.cell? (x.add (i * 3 + i')) = some (q.2 i') ∧ View w w.heap.size (q.2 i') y) ∧ okR (dPp q.1) := by
      intro i hi
      have h1 := hel i hi
      obtain ⟨y, hy⟩ : ∃ y, elems[i]? = some y := ⟨elems[i]'(by omega), List.getElem?_eq_getElem (by omega)⟩
      rw [hy] at h1
      obtain ⟨cs', h2, h3⟩ := Option.bind_eq_some_iff.1 h1
      obtain ⟨_, hlen4, hcell⟩ := World.cells?_some h2
      obtain ⟨xs, k, hk, hxy, _, hxl, hf⟩ := DataW.trod_struct Tryz.underlying149 h3
      match xs, hxl, cs', hlen4 with
      | [y0, y1, y2], _, [v0, v1, v2], _ =>
        have g0 := hf 0 _ rfl
        have g1 := hf 1 _ rfl
        have g2 := hf 2 _ rfl
        have k0 : Tryz.prog.cellsOf 9 = 1 := by kernel_rfl
        simp [k0] at g0 g1 g2
        obtain ⟨z0, e0, _, s0⟩ := DataW.trod_string Tryz.underlying9 g0
        obtain ⟨z1, e1, _, s1⟩ := DataW.trod_string Tryz.underlying9 g1
        obtain ⟨z2, e2, _, s2⟩ := DataW.trod_string Tryz.underlying9 g2
        simp only [List.cons.injEq, and_true] at e0 e1 e2
        subst e0 e1 e2
        refine ⟨(⟨z0, z1, z2⟩, fun i => ([.string z0, .string z1, .string z2][i]?).getD (.bool false)), fun i' y' hy' => ?_, ?_⟩
        · match i' with
          | 0 =>
            cases hy'
            have c := hcell 0 (by omega)
            rw [Go.Deep.add_add] at c
            exact ⟨by simpa using c, .c _⟩
          | 1 =>
            cases hy'
            have c := hcell 1 (by omega)
            rw [Go.Deep.add_add] at c
            exact ⟨by simpa using c, .c _⟩
          | 2 =>
            cases hy'
            have c := hcell 2 (by omega)
            rw [Go.Deep.add_add] at c
            exact ⟨by simpa using c, .c _⟩
          | i' + 3 => cases hy'
        · show okR [.c (.string z0), .c (.string z1), .c (.string z2)]
          simp only [okR]
          exact ⟨s0, s1, s2, trivial⟩
    obtain ⟨qs, hql, hq⟩ := pick_gen each
    have hmap : ∀ j (hj : j < qs.length), cellAt ((qs.map (·.1)).map dPp) j = fun i => (dPp qs[j].1)[i]? := fun j hj => by
      funext i
      unfold cellAt
      rw [List.map_map, List.getElem?_map, List.getElem?_eq_getElem hj]
      rfl
    refine ⟨qs.map (·.1), ?_, ?_, ?_⟩
    · by_cases h0 : 0 < qs.length
      · obtain ⟨b, off, spot⟩ := x
        have hw0 : ∃ y0, (dPp (qs[0]).1)[0]? = some y0 := ⟨_, rfl⟩
        obtain ⟨y0, hy0⟩ := hw0
        have hc := ((hq 0 h0).1 0 y0 hy0).1
        have hspot : spot = none := by simpa [Addr.add] using World.cell?_spot hc
        subst hspot
        have hb : b < w.heap.size := by
          have := World.block_lt_of_cell? w _ hc
          simpa [Addr.add] using this
        have hlen5 : len = ((qs.map (·.1)).map dPp).length := by simp [hql]
        rw [hlen5]
        refine .row b off cap 3 _ (fun j i => match qs[j]? with | some q => q.2 i | none => .bool false) hb (by rw [← hlen5]; exact hl) hm (fun r hr => by obtain ⟨q, _, rfl⟩ := List.mem_map.1 hr; rfl) (fun j i y hy => ?_) (fun j i y hy => ?_)
        · by_cases hj : j < qs.length
          · rw [hmap j hj] at hy
            have h1 := ((hq j hj).1 i y hy).1
            rw [List.getElem?_eq_getElem hj]
            have ea : (⟨b, off, none⟩ : Addr).add (j * 3 + i) = ⟨b, off + j * 3 + i, none⟩ := by rw [add_pick, Nat.add_assoc]
            rw [ea] at h1
            exact h1
          · unfold cellAt at hy
            rw [List.getElem?_eq_none (by simp; omega)] at hy
            cases hy
        · by_cases hj : j < qs.length
          · rw [hmap j hj] at hy
            rw [List.getElem?_eq_getElem hj]
            exact ((hq j hj).1 i y hy).2
          · unfold cellAt at hy
            rw [List.getElem?_eq_none (by simp; omega)] at hy
            cases hy
      · have h00 : qs = [] := List.eq_nil_of_length_eq_zero (by omega)
        subst h00
        simp at hql
        subst hql
        exact .nil _ _ (fun e => by cases e) hm
    · exact okRs_of _ (fun r hr => by
        obtain ⟨q, hq1, rfl⟩ := List.mem_map.1 hr
        obtain ⟨q', hq2, rfl⟩ := List.mem_map.1 hq1
        obtain ⟨j, hj, rfl⟩ := List.mem_iff_getElem.1 hq2
        exact ⟨(hq j hj).2, by show 3 ≤ 12; omega⟩)
    · simp [hql]; omega
end
end Go.Proofs.YtfhcniifennfbaaGreatDoor
namespace Go.Proofs.YtfhcniifennfbaaGreatDoor
open Go.RowKit Go.ChangeShapes Go.WideShapes Go.Deep M
set_option linter.unusedVariables false

section
variable {H : Type} {enc : TypeId × Value → H} {w : World} {spare : Nat → Bool} {held : Bool}
set_option maxRecDepth 100000 in
theorem openResS_gen {fuel : Nat} {v : Value} {x : DataW H × List MemPlace} (h : DataW.trod enc Tryz.prog w 0 spare held fuel 22 [v] = some x) :
    ∃ l : List Rs, View w w.heap.size v (.l (l.map dRs)) ∧ okF (.l (l.map dRs)) := by
  rcases DataW.trod_slice Tryz.underlying22 h with ⟨hcs, _⟩ | ⟨x, len, cap, elems, rest, n, hfuel, hcs, _, _, hl, hm, hlen, hel, _, _⟩
  · simp at hcs
    subst hcs
    exact ⟨[], .nil _ _ (fun _ => rfl) (Nat.zero_le _), by simp [okF, okRs]⟩
  · simp at hcs
    subst hcs
    have ce : (Tryz.prog.cellsOf 82) = 5 := by kernel_rfl
    rw [ce] at hel
    have each : ∀ i, i < len → ∃ q : Rs × (Nat → Value), (∀ i' y, (dRs q.1)[i']? = some y → w.cell? (x.add (i * 5 + i')) = some (q.2 i') ∧ View w w.heap.size (q.2 i') y) ∧ okR (dRs q.1) := by
      intro i hi
      have h1 := hel i hi
      obtain ⟨y, hy⟩ : ∃ y, elems[i]? = some y := ⟨elems[i]'(by omega), List.getElem?_eq_getElem (by omega)⟩
      rw [hy] at h1
      obtain ⟨cs', h2, h3⟩ := Option.bind_eq_some_iff.1 h1
      obtain ⟨_, hlen4, hcell⟩ := World.cells?_some h2
      obtain ⟨xs, k, hk, hxy, _, hxl, hf⟩ := DataW.trod_struct Tryz.underlying82 h3
      match xs, hxl, cs', hlen4 with
      | [y0, y1, y2, y3, y4], _, [v0, v1, v2, v3, v4], _ =>
        have g0 := hf 0 _ rfl
        have g1 := hf 1 _ rfl
        have g2 := hf 2 _ rfl
        have g3 := hf 3 _ rfl
        have g4 := hf 4 _ rfl
        have k0 : Tryz.prog.cellsOf 32 = 1 := by kernel_rfl
        have k1 : Tryz.prog.cellsOf 4 = 1 := by kernel_rfl
        have k2 : Tryz.prog.cellsOf 9 = 1 := by kernel_rfl
        have k3 : Tryz.prog.cellsOf 3 = 1 := by kernel_rfl
        have k4 : Tryz.prog.cellsOf 80 = 1 := by kernel_rfl
        simp [k0, k1, k2, k3, k4] at g0 g1 g2 g3 g4
        obtain ⟨z0, V0, O0⟩ := openStringS_gen g0
        obtain ⟨z1, e1, _⟩ := DataW.trod_bool Tryz.underlying4 g1
        obtain ⟨z2, e2, _, s2⟩ := DataW.trod_string Tryz.underlying9 g2
        obtain ⟨z3, e3, _, w3⟩ := DataW.trod_int Tryz.underlying3 g3
        obtain ⟨z4, V4, O4⟩ := openPropS_gen g4
        simp only [List.cons.injEq, and_true] at e1 e2 e3
        subst e1 e2 e3
        refine ⟨(⟨z0, z1, z2, z3, z4⟩, fun i => ([v0, .bool z1, .string z2, .int .i64 z3, v4][i]?).getD (.bool false)), fun i' y' hy' => ?_, ?_⟩
        · match i' with
          | 0 =>
            cases hy'
            have c := hcell 0 (by omega)
            rw [Go.Deep.add_add] at c
            exact ⟨by simpa using c, V0⟩
          | 1 =>
            cases hy'
            have c := hcell 1 (by omega)
            rw [Go.Deep.add_add] at c
            exact ⟨by simpa using c, .c _⟩
          | 2 =>
            cases hy'
            have c := hcell 2 (by omega)
            rw [Go.Deep.add_add] at c
            exact ⟨by simpa using c, .c _⟩
          | 3 =>
            cases hy'
            have c := hcell 3 (by omega)
            rw [Go.Deep.add_add] at c
            exact ⟨by simpa using c, .c _⟩
          | 4 =>
            cases hy'
            have c := hcell 4 (by omega)
            rw [Go.Deep.add_add] at c
            exact ⟨by simpa using c, V4⟩
          | i' + 5 => cases hy'
        · show okR [.l (z0.map dS), .c (.bool z1), .c (.string z2), .c (.int .i64 z3), .l (z4.map dPp)]
          simp only [okR]
          exact ⟨O0, trivial, s2, w3, O4, trivial⟩
    obtain ⟨qs, hql, hq⟩ := pick_gen each
    have hmap : ∀ j (hj : j < qs.length), cellAt ((qs.map (·.1)).map dRs) j = fun i => (dRs qs[j].1)[i]? := fun j hj => by
      funext i
      unfold cellAt
      rw [List.map_map, List.getElem?_map, List.getElem?_eq_getElem hj]
      rfl
    refine ⟨qs.map (·.1), ?_, ?_, ?_⟩
    · by_cases h0 : 0 < qs.length
      · obtain ⟨b, off, spot⟩ := x
        have hw0 : ∃ y0, (dRs (qs[0]).1)[0]? = some y0 := ⟨_, rfl⟩
        obtain ⟨y0, hy0⟩ := hw0
        have hc := ((hq 0 h0).1 0 y0 hy0).1
        have hspot : spot = none := by simpa [Addr.add] using World.cell?_spot hc
        subst hspot
        have hb : b < w.heap.size := by
          have := World.block_lt_of_cell? w _ hc
          simpa [Addr.add] using this
        have hlen5 : len = ((qs.map (·.1)).map dRs).length := by simp [hql]
        rw [hlen5]
        refine .row b off cap 5 _ (fun j i => match qs[j]? with | some q => q.2 i | none => .bool false) hb (by rw [← hlen5]; exact hl) hm (fun r hr => by obtain ⟨q, _, rfl⟩ := List.mem_map.1 hr; rfl) (fun j i y hy => ?_) (fun j i y hy => ?_)
        · by_cases hj : j < qs.length
          · rw [hmap j hj] at hy
            have h1 := ((hq j hj).1 i y hy).1
            rw [List.getElem?_eq_getElem hj]
            have ea : (⟨b, off, none⟩ : Addr).add (j * 5 + i) = ⟨b, off + j * 5 + i, none⟩ := by rw [add_pick, Nat.add_assoc]
            rw [ea] at h1
            exact h1
          · unfold cellAt at hy
            rw [List.getElem?_eq_none (by simp; omega)] at hy
            cases hy
        · by_cases hj : j < qs.length
          · rw [hmap j hj] at hy
            rw [List.getElem?_eq_getElem hj]
            exact ((hq j hj).1 i y hy).2
          · unfold cellAt at hy
            rw [List.getElem?_eq_none (by simp; omega)] at hy
            cases hy
      · have h00 : qs = [] := List.eq_nil_of_length_eq_zero (by omega)
        subst h00
        simp at hql
        subst hql
        exact .nil _ _ (fun e => by cases e) hm
    · exact okRs_of _ (fun r hr => by
        obtain ⟨q, hq1, rfl⟩ := List.mem_map.1 hr
        obtain ⟨q', hq2, rfl⟩ := List.mem_map.1 hq1
        obtain ⟨j, hj, rfl⟩ := List.mem_iff_getElem.1 hq2
        exact ⟨(hq j hj).2, by show 5 ≤ 12; omega⟩)
    · simp [hql]; omega
end
end Go.Proofs.YtfhcniifennfbaaGreatDoor
namespace Go.Proofs.YtfhcniifennfbaaGreatDoor
open Go.RowKit Go.ChangeShapes Go.WideShapes Go.Deep M
set_option linter.unusedVariables false

section
variable {H : Type} {enc : TypeId × Value → H} {w : World} {spare : Nat → Bool} {held : Bool}
set_option maxRecDepth 100000 in
theorem openLockS_gen {fuel : Nat} {v : Value} {x : DataW H × List MemPlace} (h : DataW.trod enc Tryz.prog w 0 spare held fuel 23 [v] = some x) :
    ∃ l : List Lk, View w w.heap.size v (.l (l.map dLk)) ∧ okF (.l (l.map dLk)) := by
  rcases DataW.trod_slice Tryz.underlying23 h with ⟨hcs, _⟩ | ⟨x, len, cap, elems, rest, n, hfuel, hcs, _, _, hl, hm, hlen, hel, _, _⟩
  · simp at hcs
    subst hcs
    exact ⟨[], .nil _ _ (fun _ => rfl) (Nat.zero_le _), by simp [okF, okRs]⟩
  · simp at hcs
    subst hcs
    have ce : (Tryz.prog.cellsOf 85) = 5 := by kernel_rfl
    rw [ce] at hel
    have each : ∀ i, i < len → ∃ q : Lk × (Nat → Value), (∀ i' y, (dLk q.1)[i']? = some y → w.cell? (x.add (i * 5 + i')) = some (q.2 i') ∧ View w w.heap.size (q.2 i') y) ∧ okR (dLk q.1) := by
      intro i hi
      have h1 := hel i hi
      obtain ⟨y, hy⟩ : ∃ y, elems[i]? = some y := ⟨elems[i]'(by omega), List.getElem?_eq_getElem (by omega)⟩
      rw [hy] at h1
      obtain ⟨cs', h2, h3⟩ := Option.bind_eq_some_iff.1 h1
      obtain ⟨_, hlen4, hcell⟩ := World.cells?_some h2
      obtain ⟨xs, k, hk, hxy, _, hxl, hf⟩ := DataW.trod_struct Tryz.underlying85 h3
      match xs, hxl, cs', hlen4 with
      | [y0, y1, y2, y3, y4], _, [v0, v1, v2, v3, v4], _ =>
        have g0 := hf 0 _ rfl
        have g1 := hf 1 _ rfl
        have g2 := hf 2 _ rfl
        have g3 := hf 3 _ rfl
        have g4 := hf 4 _ rfl
        have k0 : Tryz.prog.cellsOf 3 = 1 := by kernel_rfl
        have k1 : Tryz.prog.cellsOf 32 = 1 := by kernel_rfl
        have k2 : Tryz.prog.cellsOf 4 = 1 := by kernel_rfl
        simp [k0, k1, k2] at g0 g1 g2 g3 g4
        obtain ⟨z0, e0, _, w0⟩ := DataW.trod_int Tryz.underlying3 g0
        obtain ⟨z1, V1, O1⟩ := openStringS_gen g1
        obtain ⟨z2, e2, _⟩ := DataW.trod_bool Tryz.underlying4 g2
        obtain ⟨z3, e3, _⟩ := DataW.trod_bool Tryz.underlying4 g3
        obtain ⟨z4, e4, _, w4⟩ := DataW.trod_int Tryz.underlying3 g4
        simp only [List.cons.injEq, and_true] at e0 e2 e3 e4
        subst e0 e2 e3 e4
        refine ⟨(⟨z0, z1, z2, z3, z4⟩, fun i => ([.int .i64 z0, v1, .bool z2, .bool z3, .int .i64 z4][i]?).getD (.bool false)), fun i' y' hy' => ?_, ?_⟩
        · match i' with
          | 0 =>
            cases hy'
            have c := hcell 0 (by omega)
            rw [Go.Deep.add_add] at c
            exact ⟨by simpa using c, .c _⟩
          | 1 =>
            cases hy'
            have c := hcell 1 (by omega)
            rw [Go.Deep.add_add] at c
            exact ⟨by simpa using c, V1⟩
          | 2 =>
            cases hy'
            have c := hcell 2 (by omega)
            rw [Go.Deep.add_add] at c
            exact ⟨by simpa using c, .c _⟩
          | 3 =>
            cases hy'
            have c := hcell 3 (by omega)
            rw [Go.Deep.add_add] at c
            exact ⟨by simpa using c, .c _⟩
          | 4 =>
            cases hy'
            have c := hcell 4 (by omega)
            rw [Go.Deep.add_add] at c
            exact ⟨by simpa using c, .c _⟩
          | i' + 5 => cases hy'
        · show okR [.c (.int .i64 z0), .l (z1.map dS), .c (.bool z2), .c (.bool z3), .c (.int .i64 z4)]
          simp only [okR]
          exact ⟨w0, O1, trivial, trivial, w4, trivial⟩
    obtain ⟨qs, hql, hq⟩ := pick_gen each
    have hmap : ∀ j (hj : j < qs.length), cellAt ((qs.map (·.1)).map dLk) j = fun i => (dLk qs[j].1)[i]? := fun j hj => by
      funext i
      unfold cellAt
      rw [List.map_map, List.getElem?_map, List.getElem?_eq_getElem hj]
      rfl
    refine ⟨qs.map (·.1), ?_, ?_, ?_⟩
    · by_cases h0 : 0 < qs.length
      · obtain ⟨b, off, spot⟩ := x
        have hw0 : ∃ y0, (dLk (qs[0]).1)[0]? = some y0 := ⟨_, rfl⟩
        obtain ⟨y0, hy0⟩ := hw0
        have hc := ((hq 0 h0).1 0 y0 hy0).1
        have hspot : spot = none := by simpa [Addr.add] using World.cell?_spot hc
        subst hspot
        have hb : b < w.heap.size := by
          have := World.block_lt_of_cell? w _ hc
          simpa [Addr.add] using this
        have hlen5 : len = ((qs.map (·.1)).map dLk).length := by simp [hql]
        rw [hlen5]
        refine .row b off cap 5 _ (fun j i => match qs[j]? with | some q => q.2 i | none => .bool false) hb (by rw [← hlen5]; exact hl) hm (fun r hr => by obtain ⟨q, _, rfl⟩ := List.mem_map.1 hr; rfl) (fun j i y hy => ?_) (fun j i y hy => ?_)
        · by_cases hj : j < qs.length
          · rw [hmap j hj] at hy
            have h1 := ((hq j hj).1 i y hy).1
            rw [List.getElem?_eq_getElem hj]
            have ea : (⟨b, off, none⟩ : Addr).add (j * 5 + i) = ⟨b, off + j * 5 + i, none⟩ := by rw [add_pick, Nat.add_assoc]
            rw [ea] at h1
            exact h1
          · unfold cellAt at hy
            rw [List.getElem?_eq_none (by simp; omega)] at hy
            cases hy
        · by_cases hj : j < qs.length
          · rw [hmap j hj] at hy
            rw [List.getElem?_eq_getElem hj]
            exact ((hq j hj).1 i y hy).2
          · unfold cellAt at hy
            rw [List.getElem?_eq_none (by simp; omega)] at hy
            cases hy
      · have h00 : qs = [] := List.eq_nil_of_length_eq_zero (by omega)
        subst h00
        simp at hql
        subst hql
        exact .nil _ _ (fun e => by cases e) hm
    · exact okRs_of _ (fun r hr => by
        obtain ⟨q, hq1, rfl⟩ := List.mem_map.1 hr
        obtain ⟨q', hq2, rfl⟩ := List.mem_map.1 hq1
        obtain ⟨j, hj, rfl⟩ := List.mem_iff_getElem.1 hq2
        exact ⟨(hq j hj).2, by show 5 ≤ 12; omega⟩)
    · simp [hql]; omega
end
end Go.Proofs.YtfhcniifennfbaaGreatDoor
namespace Go.Proofs.YtfhcniifennfbaaGreatDoor
open Go.RowKit Go.ChangeShapes Go.WideShapes Go.Deep M
set_option linter.unusedVariables false

section
variable {H : Type} {enc : TypeId × Value → H} {w : World} {spare : Nat → Bool} {held : Bool}
set_option maxRecDepth 100000 in
theorem openIntS_gen {fuel : Nat} {v : Value} {x : DataW H × List MemPlace} (h : DataW.trod enc Tryz.prog w 0 spare held fuel 24 [v] = some x) :
    ∃ l : List Int, View w w.heap.size v (.l (l.map dI)) ∧ okF (.l (l.map dI)) := by
  rcases DataW.trod_slice Tryz.underlying24 h with ⟨hcs, _⟩ | ⟨x, len, cap, elems, rest, n, hfuel, hcs, _, _, hl, hm, hlen, hel, _, _⟩
  · simp at hcs
    subst hcs
    exact ⟨[], .nil _ _ (fun _ => rfl) (Nat.zero_le _), by simp [okF, okRs]⟩
  · simp at hcs
    subst hcs
    have ce : (Tryz.prog.cellsOf 3) = 1 := by kernel_rfl
    rw [ce] at hel
    have each : ∀ i, i < len → ∃ q : Int × (Nat → Value), (∀ i' y, (dI q.1)[i']? = some y → w.cell? (x.add (i * 1 + i')) = some (q.2 i') ∧ View w w.heap.size (q.2 i') y) ∧ okR (dI q.1) := by
      intro i hi
      have h1 := hel i hi
      obtain ⟨y, hy⟩ : ∃ y, elems[i]? = some y := ⟨elems[i]'(by omega), List.getElem?_eq_getElem (by omega)⟩
      rw [hy] at h1
      obtain ⟨cs', h2, h3⟩ := Option.bind_eq_some_iff.1 h1
      obtain ⟨_, hlen4, hcell⟩ := World.cells?_some h2
      match cs', hlen4 with
      | [v0], _ =>
        have g0 := h3
        obtain ⟨z0, e0, _, w0⟩ := DataW.trod_int Tryz.underlying3 g0
        simp only [List.cons.injEq, and_true] at e0
        subst e0
        refine ⟨(z0, fun i => ([.int .i64 z0][i]?).getD (.bool false)), fun i' y' hy' => ?_, ?_⟩
        · match i' with
          | 0 =>
            cases hy'
            have c := hcell 0 (by omega)
            rw [Go.Deep.add_add] at c
            exact ⟨by simpa using c, .c _⟩
          | i' + 1 => cases hy'
        · show okR [.c (.int .i64 z0)]
          simp only [okR]
          exact ⟨w0, trivial⟩
    obtain ⟨qs, hql, hq⟩ := pick_gen each
    have hmap : ∀ j (hj : j < qs.length), cellAt ((qs.map (·.1)).map dI) j = fun i => (dI qs[j].1)[i]? := fun j hj => by
      funext i
      unfold cellAt
      rw [List.map_map, List.getElem?_map, List.getElem?_eq_getElem hj]
      rfl
    refine ⟨qs.map (·.1), ?_, ?_, ?_⟩
    · by_cases h0 : 0 < qs.length
      · obtain ⟨b, off, spot⟩ := x
        have hw0 : ∃ y0, (dI (qs[0]).1)[0]? = some y0 := ⟨_, rfl⟩
        obtain ⟨y0, hy0⟩ := hw0
        have hc := ((hq 0 h0).1 0 y0 hy0).1
        have hspot : spot = none := by simpa [Addr.add] using World.cell?_spot hc
        subst hspot
        have hb : b < w.heap.size := by
          have := World.block_lt_of_cell? w _ hc
          simpa [Addr.add] using this
        have hlen5 : len = ((qs.map (·.1)).map dI).length := by simp [hql]
        rw [hlen5]
        refine .row b off cap 1 _ (fun j i => match qs[j]? with | some q => q.2 i | none => .bool false) hb (by rw [← hlen5]; exact hl) hm (fun r hr => by obtain ⟨q, _, rfl⟩ := List.mem_map.1 hr; rfl) (fun j i y hy => ?_) (fun j i y hy => ?_)
        · by_cases hj : j < qs.length
          · rw [hmap j hj] at hy
            have h1 := ((hq j hj).1 i y hy).1
            rw [List.getElem?_eq_getElem hj]
            have ea : (⟨b, off, none⟩ : Addr).add (j * 1 + i) = ⟨b, off + j * 1 + i, none⟩ := by rw [add_pick, Nat.add_assoc]
            rw [ea] at h1
            exact h1
          · unfold cellAt at hy
            rw [List.getElem?_eq_none (by simp; omega)] at hy
            cases hy
        · by_cases hj : j < qs.length
          · rw [hmap j hj] at hy
            rw [List.getElem?_eq_getElem hj]
            exact ((hq j hj).1 i y hy).2
          · unfold cellAt at hy
            rw [List.getElem?_eq_none (by simp; omega)] at hy
            cases hy
      · have h00 : qs = [] := List.eq_nil_of_length_eq_zero (by omega)
        subst h00
        simp at hql
        subst hql
        exact .nil _ _ (fun e => by cases e) hm
    · exact okRs_of _ (fun r hr => by
        obtain ⟨q, hq1, rfl⟩ := List.mem_map.1 hr
        obtain ⟨q', hq2, rfl⟩ := List.mem_map.1 hq1
        obtain ⟨j, hj, rfl⟩ := List.mem_iff_getElem.1 hq2
        exact ⟨(hq j hj).2, by show 1 ≤ 12; omega⟩)
    · simp [hql]; omega
end
end Go.Proofs.YtfhcniifennfbaaGreatDoor
namespace Go.Proofs.YtfhcniifennfbaaGreatDoor
open Go.RowKit Go.ChangeShapes Go.WideShapes Go.Deep M
set_option linter.unusedVariables false

section
variable {H : Type} {enc : TypeId × Value → H} {w : World} {spare : Nat → Bool} {held : Bool}
set_option maxRecDepth 100000 in
theorem openSrv_gen {r : Reach} {b0 : Nat} {v : Value} {d : DataW H} {p : List MemPlace} (hv : Value.okWide Tryz.prog w r b0 26 v) (h : DataW.Trod enc Tryz.prog w 0 spare held 26 v d p) :
    ∃ (x : Sv) (u0 u1 u4 u5 : Value), v = .agg #[u0, u1, .int .i64 x.now, .int .i64 x.ver, u4, u5] ∧ View w w.heap.size u0 (.l (x.t.map dRs)) ∧ View w w.heap.size u1 (.l (x.l.map dLk)) ∧ View w w.heap.size u4 (.l (x.dr.map dI)) ∧ View w w.heap.size u5 (.l (x.us.map dI)) ∧ okR (dSv x) := by
  obtain ⟨cs, rfl, hsz⟩ := okWide_struct Tryz.underlying26 hv
  have hsz2 : cs.size = 6 := hsz.trans (by kernel_rfl)
  obtain ⟨l⟩ := cs
  match l, hsz2 with
  | [v0, v1, v2, v3, v4, v5], _ =>
    obtain ⟨fuel, hf0⟩ := h
    obtain ⟨xs, n, _, _, hl, hxl, hf⟩ := DataW.trod_struct Tryz.underlying26 hf0
    match xs, hxl with
    | [y0, y1, y2, y3, y4, y5], _ =>

      have g0 := hf 0 _ rfl
      have g1 := hf 1 _ rfl
      have g2 := hf 2 _ rfl
      have g3 := hf 3 _ rfl
      have g4 := hf 4 _ rfl
      have g5 := hf 5 _ rfl
      have k0 : Tryz.prog.cellsOf 22 = 1 := by kernel_rfl
      have k1 : Tryz.prog.cellsOf 23 = 1 := by kernel_rfl
      have k2 : Tryz.prog.cellsOf 3 = 1 := by kernel_rfl
      have k3 : Tryz.prog.cellsOf 24 = 1 := by kernel_rfl
      simp [Value.cells, k0, k1, k2, k3] at g0 g1 g2 g3 g4 g5
      obtain ⟨z0, V0, O0⟩ := openResS_gen g0
      obtain ⟨z1, V1, O1⟩ := openLockS_gen g1
      obtain ⟨z2, e2, _, w2⟩ := DataW.trod_int Tryz.underlying3 g2
      obtain ⟨z3, e3, _, w3⟩ := DataW.trod_int Tryz.underlying3 g3
      obtain ⟨z4, V4, O4⟩ := openIntS_gen g4
      obtain ⟨z5, V5, O5⟩ := openIntS_gen g5
      simp only [List.cons.injEq, and_true] at e2 e3
      subst e2 e3
      refine ⟨⟨z0, z1, z2, z3, z4, z5⟩, v0, v1, v4, v5, rfl, V0, V1, V4, V5, ?_⟩
      show okR [.l (z0.map dRs), .l (z1.map dLk), .c (.int .i64 z2), .c (.int .i64 z3), .l (z4.map dI), .l (z5.map dI)]
      simp only [okR]
      exact ⟨O0, O1, w2, w3, O4, O5, trivial⟩
end
end Go.Proofs.YtfhcniifennfbaaGreatDoor
namespace Go.Proofs.YtfhcniifennfbaaGreatDoor
open Go.RowKit Go.ChangeShapes Go.WideShapes Go.Deep M
set_option linter.unusedVariables false

section
variable {H : Type} {enc : TypeId × Value → H} {w : World} {spare : Nat → Bool} {held : Bool}
set_option maxRecDepth 100000 in
theorem openHeadS_gen {fuel : Nat} {v : Value} {x : DataW H × List MemPlace} (h : DataW.trod enc Tryz.prog w 0 spare held fuel 27 [v] = some x) :
    ∃ l : List Hd, View w w.heap.size v (.l (l.map dHd)) ∧ okF (.l (l.map dHd)) := by
  rcases DataW.trod_slice Tryz.underlying27 h with ⟨hcs, _⟩ | ⟨x, len, cap, elems, rest, n, hfuel, hcs, _, _, hl, hm, hlen, hel, _, _⟩
  · simp at hcs
    subst hcs
    exact ⟨[], .nil _ _ (fun _ => rfl) (Nat.zero_le _), by simp [okF, okRs]⟩
  · simp at hcs
    subst hcs
    have ce : (Tryz.prog.cellsOf 88) = 2 := by kernel_rfl
    rw [ce] at hel
    have each : ∀ i, i < len → ∃ q : Hd × (Nat → Value), (∀ i' y, (dHd q.1)[i']? = some y → w.cell? (x.add (i * 2 + i')) = some (q.2 i') ∧ View w w.heap.size (q.2 i') y) ∧ okR (dHd q.1) := by
      intro i hi
      have h1 := hel i hi
      obtain ⟨y, hy⟩ : ∃ y, elems[i]? = some y := ⟨elems[i]'(by omega), List.getElem?_eq_getElem (by omega)⟩
      rw [hy] at h1
      obtain ⟨cs', h2, h3⟩ := Option.bind_eq_some_iff.1 h1
      obtain ⟨_, hlen4, hcell⟩ := World.cells?_some h2
      obtain ⟨xs, k, hk, hxy, _, hxl, hf⟩ := DataW.trod_struct Tryz.underlying88 h3
      match xs, hxl, cs', hlen4 with
      | [y0, y1], _, [v0, v1], _ =>
        have g0 := hf 0 _ rfl
        have g1 := hf 1 _ rfl
        have k0 : Tryz.prog.cellsOf 9 = 1 := by kernel_rfl
        simp [k0] at g0 g1
        obtain ⟨z0, e0, _, s0⟩ := DataW.trod_string Tryz.underlying9 g0
        obtain ⟨z1, e1, _, s1⟩ := DataW.trod_string Tryz.underlying9 g1
        simp only [List.cons.injEq, and_true] at e0 e1
        subst e0 e1
        refine ⟨(⟨z0, z1⟩, fun i => ([.string z0, .string z1][i]?).getD (.bool false)), fun i' y' hy' => ?_, ?_⟩
        · match i' with
          | 0 =>
            cases hy'
            have c := hcell 0 (by omega)
            rw [Go.Deep.add_add] at c
            exact ⟨by simpa using c, .c _⟩
          | 1 =>
            cases hy'
            have c := hcell 1 (by omega)
            rw [Go.Deep.add_add] at c
            exact ⟨by simpa using c, .c _⟩
          | i' + 2 => cases hy'
        · show okR [.c (.string z0), .c (.string z1)]
          simp only [okR]
          exact ⟨s0, s1, trivial⟩
    obtain ⟨qs, hql, hq⟩ := pick_gen each
    have hmap : ∀ j (hj : j < qs.length), cellAt ((qs.map (·.1)).map dHd) j = fun i => (dHd qs[j].1)[i]? := fun j hj => by
      funext i
      unfold cellAt
      rw [List.map_map, List.getElem?_map, List.getElem?_eq_getElem hj]
      rfl
    refine ⟨qs.map (·.1), ?_, ?_, ?_⟩
    · by_cases h0 : 0 < qs.length
      · obtain ⟨b, off, spot⟩ := x
        have hw0 : ∃ y0, (dHd (qs[0]).1)[0]? = some y0 := ⟨_, rfl⟩
        obtain ⟨y0, hy0⟩ := hw0
        have hc := ((hq 0 h0).1 0 y0 hy0).1
        have hspot : spot = none := by simpa [Addr.add] using World.cell?_spot hc
        subst hspot
        have hb : b < w.heap.size := by
          have := World.block_lt_of_cell? w _ hc
          simpa [Addr.add] using this
        have hlen5 : len = ((qs.map (·.1)).map dHd).length := by simp [hql]
        rw [hlen5]
        refine .row b off cap 2 _ (fun j i => match qs[j]? with | some q => q.2 i | none => .bool false) hb (by rw [← hlen5]; exact hl) hm (fun r hr => by obtain ⟨q, _, rfl⟩ := List.mem_map.1 hr; rfl) (fun j i y hy => ?_) (fun j i y hy => ?_)
        · by_cases hj : j < qs.length
          · rw [hmap j hj] at hy
            have h1 := ((hq j hj).1 i y hy).1
            rw [List.getElem?_eq_getElem hj]
            have ea : (⟨b, off, none⟩ : Addr).add (j * 2 + i) = ⟨b, off + j * 2 + i, none⟩ := by rw [add_pick, Nat.add_assoc]
            rw [ea] at h1
            exact h1
          · unfold cellAt at hy
            rw [List.getElem?_eq_none (by simp; omega)] at hy
            cases hy
        · by_cases hj : j < qs.length
          · rw [hmap j hj] at hy
            rw [List.getElem?_eq_getElem hj]
            exact ((hq j hj).1 i y hy).2
          · unfold cellAt at hy
            rw [List.getElem?_eq_none (by simp; omega)] at hy
            cases hy
      · have h00 : qs = [] := List.eq_nil_of_length_eq_zero (by omega)
        subst h00
        simp at hql
        subst hql
        exact .nil _ _ (fun e => by cases e) hm
    · exact okRs_of _ (fun r hr => by
        obtain ⟨q, hq1, rfl⟩ := List.mem_map.1 hr
        obtain ⟨q', hq2, rfl⟩ := List.mem_map.1 hq1
        obtain ⟨j, hj, rfl⟩ := List.mem_iff_getElem.1 hq2
        exact ⟨(hq j hj).2, by show 2 ≤ 12; omega⟩)
    · simp [hql]; omega
end
end Go.Proofs.YtfhcniifennfbaaGreatDoor
namespace Go.Proofs.YtfhcniifennfbaaGreatDoor
open Go.RowKit Go.ChangeShapes Go.WideShapes Go.Deep M
set_option linter.unusedVariables false

section
variable {H : Type} {enc : TypeId × Value → H} {w : World} {spare : Nat → Bool} {held : Bool}
set_option maxRecDepth 100000 in
theorem openReq_gen {r : Reach} {b0 : Nat} {v : Value} {d : DataW H} {p : List MemPlace} (hv : Value.okWide Tryz.prog w r b0 29 v) (h : DataW.Trod enc Tryz.prog w 0 spare held 29 v d p) :
    ∃ (x : Rq) (u2 : Value), v = .agg #[.string x.m, .string x.p, u2, .string x.b] ∧ View w w.heap.size u2 (.l (x.hs.map dHd)) ∧ okR (dRq x) := by
  obtain ⟨cs, rfl, hsz⟩ := okWide_struct Tryz.underlying29 hv
  have hsz2 : cs.size = 4 := hsz.trans (by kernel_rfl)
  obtain ⟨l⟩ := cs
  match l, hsz2 with
  | [v0, v1, v2, v3], _ =>
    obtain ⟨fuel, hf0⟩ := h
    obtain ⟨xs, n, _, _, hl, hxl, hf⟩ := DataW.trod_struct Tryz.underlying29 hf0
    match xs, hxl with
    | [y0, y1, y2, y3], _ =>

      have g0 := hf 0 _ rfl
      have g1 := hf 1 _ rfl
      have g2 := hf 2 _ rfl
      have g3 := hf 3 _ rfl
      have k0 : Tryz.prog.cellsOf 9 = 1 := by kernel_rfl
      have k1 : Tryz.prog.cellsOf 27 = 1 := by kernel_rfl
      simp [Value.cells, k0, k1] at g0 g1 g2 g3
      obtain ⟨z0, e0, _, s0⟩ := DataW.trod_string Tryz.underlying9 g0
      obtain ⟨z1, e1, _, s1⟩ := DataW.trod_string Tryz.underlying9 g1
      obtain ⟨z2, V2, O2⟩ := openHeadS_gen g2
      obtain ⟨z3, e3, _, s3⟩ := DataW.trod_string Tryz.underlying9 g3
      simp only [List.cons.injEq, and_true] at e0 e1 e3
      subst e0 e1 e3
      refine ⟨⟨z0, z1, z2, z3⟩, v2, rfl, V2, ?_⟩
      show okR [.c (.string z0), .c (.string z1), .l (z2.map dHd), .c (.string z3)]
      simp only [okR]
      exact ⟨s0, s1, O2, s3, trivial⟩
end
end Go.Proofs.YtfhcniifennfbaaGreatDoor
