/-
  Rows of bytes that the call made, of a text or by appending: a text more behind; what they hold. (Such a row may bear a mark behind its last cell.)
  Bytes of another slice behind a row of bytes that the call made.
  Bytes of whatever slice behind a row of bytes that the call made, behind a part of one, and behind none.
  What is read of a wire: requests one behind the other; however the bytes were cut.
  What GetReq does with no bytes, of a slice that is nil.
  Rows of requests that the call owns: one more behind, and what they hold; each request's heads lie in a row of its own.
  Rows of cells that may be written.
  Whether two slices of bytes hold the same, by the laws' own help.
  What the laws' own helps do that mark bytes.
  What the laws' own help does that looks whether the marks of bytes are still there.
  Rows of bytes, perhaps none, that are new and may be written: what they hold; marked, and looked at.
  What an open wire does: bytes that come, requests that are read of them.
-/
import Derived.Test.YtkhnkockdfmkgabGreatDoorMathEnd
import Derived.Lib.AppendStr
import Derived.Lib.ConvBytes
import Derived.Lib.FrozenHead
import Derived.Test.YtkhnkockdfmkgabGreatDoorSpecVal
import Derived.Test.YtkhnkockdfmkgabGreatDoorParseHex
import Derived.Test.YtkhnkockdfmkgabGreatDoorGetReq
import Derived.Maps.AppendAt
import Derived.Deep.RegionHeld3
namespace Go.Proofs.YtkhnkockdfmkgabGreatDoor
open Go.RowKit
set_option linter.unusedVariables false

/-- Stores into a row that is frozen behind its end alone. -/
theorem storeCells_behind (P : Program) (g o : Nat) (t : TypeId) (fz : Nat × Nat) : ∀ (vs : List Value) (i : Nat) (cur : Array Value) (w : World), w.heap[g]? = some (.cells cur t fz) → (fz.2 = 0 ∨ cur.size ≤ fz.1) → o + i + vs.length ≤ cur.size → (∀ v ∈ vs, v.oneCell' = true) →
    (storeCells ⟨g, o, none⟩ vs i).run P w = .ok () (w.setRow g (cur.toList.take (o + i) ++ vs ++ cur.toList.drop (o + i + vs.length)).toArray) := by
  intro vs
  induction vs with
  | nil =>
    intro i cur w hg _ _ _
    simp only [storeCells, List.append_nil, List.length_nil, Nat.add_zero, List.take_append_drop, Array.toArray_toList]
    rw [setRow_self w g cur t fz hg]
    rfl
  | cons v rest ih =>
    intro i cur w hg hfz hl h1
    have hi : o + i < cur.size := by simp at hl; omega
    have hadd : (⟨g, o, none⟩ : Addr).add i = ⟨g, o + i, none⟩ := by unfold Addr.add; split <;> simp_all
    have hcell : w.cell? ⟨g, o + i, none⟩ = some cur[o + i] := by simp [World.cell?, hg, hi]
    have hfro : w.frozen? ⟨g, o + i, none⟩ = false := by
      obtain ⟨lo, hi'⟩ := fz
      simp only [World.frozen?, hg, Bool.and_eq_false_iff, decide_eq_false_iff_not]
      simp only at hfz
      omega
    have hst : (store ((⟨g, o, none⟩ : Addr).add i) v).run P w = .ok () (w.setRow g (cur.setIfInBounds (o + i) v)) := by
      rw [hadd, run_store P w _ v _ (h1 v (by simp)), hcell]
      simp [hfro, setCell_eq_setRow w g (o + i) cur t fz v hg]
    have ih2 := ih (i + 1) (cur.setIfInBounds (o + i) v) (w.setRow g (cur.setIfInBounds (o + i) v)) (setRow_heap w g cur _ t _ hg) (by simpa using hfz) (by simp at hl ⊢; omega) (fun x hx => h1 x (by simp [hx]))
    simp only [storeCells, Sem.run_bind, hst, Result.andThen_ok, ih2, setRow_setRow]
    congr 3
    have e := list_seg_step cur.toList (o + i) v rest (by simp at hl ⊢; omega)
    simpa [Array.toList_setIfInBounds, Nat.add_assoc] using e

/-- The slice v holds the bytes l, in a row of the call's own, from B on. -/
def OwnY (w : World) (B : Nat) (v : Value) (l : List UInt8) : Prop :=
  ∃ g cap cur fz, v = .slice (some ⟨g, 0, none⟩) l.length cap ∧ B ≤ g ∧ w.heap[g]? = some (.cells cur 5 fz) ∧ (fz.2 = 0 ∨ cur.size ≤ fz.1) ∧ l.length ≤ cap ∧ cap ≤ maxLen ∧ cur.size = cap ∧ cur.toList.take l.length = Lib.byteCells l

theorem OwnY.byt {w : World} {B : Nat} {v : Value} {l : List UInt8} (h : OwnY w B v l) : ∃ g c, v = .slice (some ⟨g, 0, none⟩) l.length c ∧ B ≤ g ∧ g < w.heap.size ∧ l.length ≤ c ∧ c ≤ maxLen ∧ Byt w w.heap.size (some ⟨g, 0, none⟩) l := by
  obtain ⟨g, cap, cur, fz, hv, hB, hg, _, h1, h2, h3, h4⟩ := h
  have hlt : g < w.heap.size := (Array.getElem?_eq_some_iff.1 hg).1
  refine ⟨g, cap, hv, hB, hlt, h1, h2, fun _ => ⟨g, 0, rfl, hlt, fun j hj => ?_⟩⟩
  rw [Nat.zero_add]
  have hx : cur.toList[j]? = some (.int .u8 l[j].toNat) := by
    have e : (cur.toList.take l.length)[j]? = cur.toList[j]? := by rw [List.getElem?_take, if_pos hj]
    rw [← e, h4]
    simp [Lib.byteCells, List.getElem?_eq_getElem hj]
  simp [World.cell?, hg]
  simpa using hx
theorem OwnY.next {w w' : World} {B : Nat} {v : Value} {l : List UInt8} (h : OwnY w B v l) (hb : Below w.heap.size w w') : OwnY w' B v l := by
  obtain ⟨g, cap, cur, fz, hv, hB, hg, hr⟩ := h
  exact ⟨g, cap, cur, fz, hv, hB, (hb.block g (Array.getElem?_eq_some_iff.1 hg).1).trans hg, hr⟩
theorem OwnY.base {w : World} {B C : Nat} {v : Value} {l : List UInt8} (h : OwnY w B v l) (hC : C ≤ B) : OwnY w C v l := by
  obtain ⟨g, cap, cur, fz, hv, hB, hr⟩ := h
  exact ⟨g, cap, cur, fz, hv, Nat.le_trans hC hB, hr⟩

theorem infoU8 : (Tryz.prog.info? 5).map (fun i => (i.zero, i.size, i.bytes)) = some (some (.int .u8 0), 1, 1) := by kernel_rfl

theorem strCells_byte (s : ByteArray) : Lib.strCells s = Lib.byteCells s.data.toList := rfl

/-- 'append(b, s...)' of a text. -/
theorem run_append_text (w : World) (B : Nat) (v : Value) (l : List UInt8) (ty : TypeId) (h : OwnY w B v l) (s : ByteArray) (hs : l.length + s.size ≤ 4398046511104) (hB : B ≤ w.heap.size) :
    ∃ v' w', (Builtin.append_ #[22, 9] ty #[v, .string s]).run Tryz.prog w = .ok v' w' ∧ OwnY w' B v' (l ++ s.data.toList) ∧ w.grownBy w' v.ownBlock ∧ (v'.ownBlock = v.ownBlock ∨ v'.ownBlock = some w.heap.size) := by
  obtain ⟨i0, hi, hz0, hz1, hz2⟩ := info_parts infoU8
  obtain ⟨g, cap, cur, fz, rfl, hBg, hg, hfz, hn, hcm, hcs, htake⟩ := h
  have hlen : (l ++ s.data.toList).length = l.length + s.size := by rw [List.length_append]; congr 1
  have hgl : g < w.heap.size := (Array.getElem?_eq_some_iff.1 hg).1
  by_cases hroom : l.length + s.size ≤ cap
  · have hf := Lib.run_firstCells_string (P := Tryz.prog) w 1 s
    have hst := storeCells_behind Tryz.prog g l.length 5 fz (Lib.strCells s) 0 cur w hg hfz (by rw [Lib.strCells_length]; omega) (Lib.strCells_oneCell s)
    simp only [Nat.add_zero, Lib.strCells_length] at hst
    refine ⟨.slice (some ⟨g, 0, none⟩) (l.length + s.size) cap, w.setRow g (cur.toList.take l.length ++ Lib.strCells s ++ cur.toList.drop (l.length + s.size)).toArray, ?_, ?_, ?_⟩
    · simp [Builtin.append_, run_underlying Tryz.underlying22, run_underlying Tryz.underlying9, sizeOf, typeInfo, hi, hz1, Builtin.lenOf, hroom, hf, Addr.add_lit, hst]
    · refine ⟨g, cap, _, fz, by rw [hlen], hBg, setRow_heap w g cur _ 5 _ hg, ?_, by omega, hcm, ?_, ?_⟩
      · rcases hfz with hfz | hfz
        · exact .inl hfz
        · right
          simp only [List.size_toArray, List.length_append, List.length_take, List.length_drop, Array.length_toList, Lib.strCells_length]
          omega
      · simp only [List.size_toArray, List.length_append, List.length_take, List.length_drop, Array.length_toList, Lib.strCells_length]
        omega
      · rw [htake, strCells_byte, Lib.byteCells_append]
        have : (l ++ s.data.toList).length = (Lib.byteCells l ++ Lib.byteCells s.data.toList).length := by rw [List.length_append, List.length_append, Lib.byteCells_length, Lib.byteCells_length]
        rw [this]
        exact List.take_left
    · exact ⟨⟨rfl, rfl, rfl, by simp, fun k _ hk => setRow_other w g k _ (fun e => hk (by simp [Value.ownBlock, e]))⟩, .inl rfl⟩
  · have holds : ∀ j u, (Lib.byteCells l)[j]? = some u → w.cell? ((⟨g, 0, none⟩ : Addr).add j) = some u := by
      intro j u hu
      have hadd : (⟨g, 0, none⟩ : Addr).add j = ⟨g, j, none⟩ := by unfold Addr.add; split <;> simp_all
      rw [hadd, ← htake] at *
      rw [List.getElem?_take] at hu
      split at hu
      · simp [World.cell?, hg]; simpa using hu
      · cases hu
    have hr := Lib.run_append_grow_string (P := Tryz.prog) w 22 9 ty 5 i0 (.int .u8 0) Tryz.underlying22 Tryz.underlying9 hi hz0 ⟨g, 0, none⟩ l.length cap (Lib.byteCells l) (by rw [hz1, Lib.byteCells_length, Nat.mul_one]) holds s (by omega) (by omega) (by rw [hz2]; exact growslice_fits (by omega) (by omega))
    have hge := grownCap_ge w (l.length + s.size) cap 5
    have hcm2 : grownCap w (l.length + s.size) cap 5 ≤ maxLen := grownCap_le_maxLen w (l.length + s.size) cap 5 (by unfold maxLen; omega)
    refine ⟨_, _, hr, ⟨w.heap.size, _, _, (0, 0), by rw [hlen], hB, heap_alloc_new w.drew _, .inl rfl, by omega, hcm2, ?_, ?_⟩, ⟨rfl, rfl, rfl, by simp, fun k hk _ => ((Below.refl w.drew.heap.size w.drew).alloc (Nat.le_refl _) _).block k (by show k < w.heap.size; omega)⟩, .inr rfl⟩
    · have hz1' : (Value.int IntKind.u8 0).cells.size = 1 := rfl
      simp only [Array.size_append, List.size_toArray, size_zeroCells, hz1', Lib.byteCells_length, Lib.strCells_length]
      omega
    · simp only [Array.toList_append, List.append_assoc]
      rw [← List.append_assoc, strCells_byte, ← Lib.byteCells_append]
      have : (l ++ s.data.toList).length = (Lib.byteCells (l ++ s.data.toList)).length := by rw [Lib.byteCells_length]
      rw [this]
      exact List.take_left

theorem wp_append_text {w : World} {ops : Array Oper} {rest : List Oper} {o : Oper} {a : Act} {Q : Exit → Act → World → Prop} (hgd : o.guard = none) (sl x : Operand)
    (ho : o.op = .call { callee := .builtin .append, args := #[sl, x], argTypes := #[22, 9] })
    (B : Nat) (v : Value) (l : List UInt8) (hs : a.eval sl = v) (hown : OwnY w B v l) (s : ByteArray) (hx : a.eval x = .string s) (hlen : l.length + s.size ≤ 4398046511104) (hB : B ≤ w.heap.size)
    (h : ∀ v' w', OwnY w' B v' (l ++ s.data.toList) → w.grownBy w' v.ownBlock → (v'.ownBlock = v.ownBlock ∨ v'.ownBlock = some w.heap.size) → wpList Tryz.prog ops Q rest (a.put o.dst v') w') : wpList Tryz.prog ops Q (o :: rest) a w := by
  refine wpList_plain hgd fun K hK => ?_
  obtain ⟨v', w', hr, h2, h3, h4⟩ := run_append_text w B v l o.type hown s hlen hB
  unfold Oper.wp execOp
  simp only [ho, resolve, invoke, builtin, Sem.run_bind, Sem.run_pure, Result.andThen_ok, List.map_toArray, List.map_cons, List.map_nil, hs, hx, hr]
  exact hK _ _ (h v' w' h2 h3 h4)

theorem OwnY.lt {w : World} {B : Nat} {v : Value} {l : List UInt8} (h : OwnY w B v l) : ∀ k, v.ownBlock = some k → B ≤ k ∧ k < w.heap.size := by
  obtain ⟨g, cap, cur, fz, rfl, hB, hg, _⟩ := h
  intro k hk
  simp [Value.ownBlock] at hk
  subst hk
  exact ⟨hB, (Array.getElem?_eq_some_iff.1 hg).1⟩
theorem OwnY.grown {w w' : World} {B : Nat} {v : Value} {l : List UInt8} (h : OwnY w B v l) (hB : B ≤ w.heap.size) (hg : w.grownBy w' v.ownBlock) : Below B w w' :=
  ⟨hg.os, hg.tape, hg.output, hg.size, fun k hk => hg.block k (Nat.lt_of_lt_of_le hk hB) (fun e => by have := h.lt k e.symm; omega)⟩

/-- '[]byte(s)'. -/
theorem OwnY.made (w : World) (s : ByteArray) (hs : s.size ≤ 4398046511104) : OwnY (Lib.bytesWorld w 5 s) w.heap.size (.slice (some ⟨w.heap.size, 0, none⟩) s.size (grownCap w s.size 0 5)) s.data.toList := by
  have hlen : s.data.toList.length = s.size := Array.length_toList
  refine ⟨w.heap.size, grownCap w s.size 0 5, Lib.bytesCells w 5 s, _, by rw [hlen], Nat.le_refl _, Lib.bytesWorld_at_new w 5 s, .inr (Nat.le_refl _), by rw [hlen]; exact grownCap_ge w s.size 0 5, grownCap_le_maxLen w s.size 0 5 (by unfold maxLen; omega), ?_, ?_⟩
  · have hge := grownCap_ge w s.size 0 5
    have : s.data.size = s.size := rfl
    simp only [Lib.bytesCells, Array.size_append, Array.size_map, Array.size_replicate]
    omega
  · have e : (Lib.bytesCells w 5 s).toList = Lib.byteCells s.data.toList ++ List.replicate (grownCap w s.size 0 5 - s.size) (.int .u8 0) := by
      simp [Lib.bytesCells, Lib.byteCells]
    rw [e]
    have : s.data.toList.length = (Lib.byteCells s.data.toList).length := by rw [Lib.byteCells_length]
    rw [this]
    exact List.take_left
/-- '[]byte{}'. -/
theorem OwnY.bare (w : World) : OwnY (w.alloc (Obj.cells #[] 5)) w.heap.size (.slice (some ⟨w.heap.size, 0, none⟩) 0 0) [] :=
  ⟨w.heap.size, 0, #[], (0, 0), rfl, Nat.le_refl _, heap_alloc_new w _, .inl rfl, Nat.le_refl _, Nat.zero_le _, rfl, rfl⟩

end Go.Proofs.YtkhnkockdfmkgabGreatDoor
namespace Go.Proofs.YtkhnkockdfmkgabGreatDoor
open Go.RowKit
set_option linter.unusedVariables false

theorem run_append_from (w : World) (B : Nat) (v : Value) (l : List UInt8) (ty : TypeId) (h : OwnY w B v l) (g0 o0 : Nat) (m : List UInt8) (c : Nat) (hm : ∀ j (hj : j < m.length), w.cell? ⟨g0, o0 + j, none⟩ = some (.int .u8 m[j].toNat)) (hs : l.length + m.length ≤ 4398046511104) (hB : B ≤ w.heap.size) :
    ∃ v' w', (Builtin.append_ #[22, 22] ty #[v, .slice (some ⟨g0, o0, none⟩) m.length c]).run Tryz.prog w = .ok v' w' ∧ OwnY w' B v' (l ++ m) ∧ w.grownBy w' v.ownBlock ∧ (v'.ownBlock = v.ownBlock ∨ v'.ownBlock = some w.heap.size) := by
  obtain ⟨i0, hi, hz0, hz1, hz2⟩ := info_parts infoU8
  obtain ⟨g, cap, cur, fz, rfl, hBg, hg, hfz, hn, hcm, hcs, htake⟩ := h
  have hlen : (l ++ m).length = l.length + m.length := List.length_append
  have hgl : g < w.heap.size := (Array.getElem?_eq_some_iff.1 hg).1
  have hnews : ∀ j u, (Lib.byteCells m)[j]? = some u → w.cell? ((⟨g0, o0, none⟩ : Addr).add j) = some u := by
    intro j u hu
    have hj : j < m.length := by
      have := (List.getElem?_eq_some_iff.1 hu).1
      rwa [Lib.byteCells_length] at this
    have hadd : (⟨g0, o0, none⟩ : Addr).add j = ⟨g0, o0 + j, none⟩ := by unfold Addr.add; split <;> simp_all
    rw [hadd, hm j hj]
    simp [Lib.byteCells, List.getElem?_eq_getElem hj] at hu
    rw [← hu]
  have hone : ∀ u ∈ Lib.byteCells m, u.oneCell' = true := by
    intro u hu
    simp only [Lib.byteCells, List.mem_map] at hu
    obtain ⟨c, _, rfl⟩ := hu
    rfl
  by_cases hroom : l.length + m.length ≤ cap
  · have hf := run_firstCells_some (P := Tryz.prog) w 1 m.length ⟨g0, o0, none⟩ m.length c (Lib.byteCells m) (by rw [Lib.byteCells_length]; omega) hnews
    have hst := storeCells_behind Tryz.prog g l.length 5 fz (Lib.byteCells m) 0 cur w hg hfz (by rw [Lib.byteCells_length]; omega) hone
    simp only [Nat.add_zero, Lib.byteCells_length] at hst
    refine ⟨.slice (some ⟨g, 0, none⟩) (l.length + m.length) cap, w.setRow g (cur.toList.take l.length ++ Lib.byteCells m ++ cur.toList.drop (l.length + m.length)).toArray, ?_, ?_, ?_⟩
    · simp [Builtin.append_, run_underlying Tryz.underlying22, sizeOf, typeInfo, hi, hz1, Builtin.lenOf, hroom, hf, Addr.add_lit, hst]
    · refine ⟨g, cap, _, fz, by rw [hlen], hBg, setRow_heap w g cur _ 5 _ hg, ?_, by omega, hcm, ?_, ?_⟩
      · rcases hfz with hfz | hfz
        · exact .inl hfz
        · right
          simp only [List.size_toArray, List.length_append, List.length_take, List.length_drop, Array.length_toList, Lib.byteCells_length]
          omega
      · simp only [List.size_toArray, List.length_append, List.length_take, List.length_drop, Array.length_toList, Lib.byteCells_length]
        omega
      · rw [htake, Lib.byteCells_append]
        have : (l ++ m).length = (Lib.byteCells l ++ Lib.byteCells m).length := by rw [List.length_append, List.length_append, Lib.byteCells_length, Lib.byteCells_length]
        rw [this]
        exact List.take_left
    · exact ⟨⟨rfl, rfl, rfl, by simp, fun k _ hk => setRow_other w g k _ (fun e => hk (by simp [Value.ownBlock, e]))⟩, .inl rfl⟩
  · have holds : ∀ j u, (Lib.byteCells l)[j]? = some u → w.cell? ((⟨g, 0, none⟩ : Addr).add j) = some u := by
      intro j u hu
      have hadd : (⟨g, 0, none⟩ : Addr).add j = ⟨g, j, none⟩ := by unfold Addr.add; split <;> simp_all
      rw [hadd, ← htake] at *
      rw [List.getElem?_take] at hu
      split at hu
      · simp [World.cell?, hg]; simpa using hu
      · cases hu
    have hr := run_append_grow (P := Tryz.prog) w 22 ty 5 i0 (.int .u8 0) Tryz.underlying22 hi hz0 ⟨g, 0, none⟩ l.length cap (Lib.byteCells l) (by rw [hz1, Lib.byteCells_length, Nat.mul_one]) holds ⟨g0, o0, none⟩ m.length c (Lib.byteCells m) (by rw [hz1, Lib.byteCells_length, Nat.mul_one]) hnews (by omega) (by omega) (by rw [hz2]; exact growslice_fits (by omega) (by omega))
    have hge := grownCap_ge w (l.length + m.length) cap 5
    have hcm2 : grownCap w (l.length + m.length) cap 5 ≤ maxLen := grownCap_le_maxLen w (l.length + m.length) cap 5 (by unfold maxLen; omega)
    refine ⟨_, _, hr, ⟨w.heap.size, _, _, (0, 0), by rw [hlen], hB, heap_alloc_new w.drew _, .inl rfl, by omega, hcm2, ?_, ?_⟩, ⟨rfl, rfl, rfl, by simp, fun k hk _ => ((Below.refl w.drew.heap.size w.drew).alloc (Nat.le_refl _) _).block k (by show k < w.heap.size; omega)⟩, .inr rfl⟩
    · have hz1' : (Value.int IntKind.u8 0).cells.size = 1 := rfl
      simp only [Array.size_append, List.size_toArray, size_zeroCells, hz1', Lib.byteCells_length]
      omega
    · simp only [Array.toList_append, List.append_assoc]
      rw [← List.append_assoc, ← Lib.byteCells_append]
      have : (l ++ m).length = (Lib.byteCells (l ++ m)).length := by rw [Lib.byteCells_length]
      rw [this]
      exact List.take_left

theorem run_append_byts (w : World) (B : Nat) (v : Value) (l : List UInt8) (ty : TypeId) (h : OwnY w B v l) (g0 : Nat) (m : List UInt8) (c : Nat) (hm : ∀ j (hj : j < m.length), w.cell? ⟨g0, j, none⟩ = some (.int .u8 m[j].toNat)) (hs : l.length + m.length ≤ 4398046511104) (hB : B ≤ w.heap.size) :
    ∃ v' w', (Builtin.append_ #[22, 22] ty #[v, .slice (some ⟨g0, 0, none⟩) m.length c]).run Tryz.prog w = .ok v' w' ∧ OwnY w' B v' (l ++ m) ∧ w.grownBy w' v.ownBlock ∧ (v'.ownBlock = v.ownBlock ∨ v'.ownBlock = some w.heap.size) :=
  run_append_from w B v l ty h g0 0 m c (fun j hj => by rw [Nat.zero_add]; exact hm j hj) hs hB

theorem wp_append_byts {w : World} {ops : Array Oper} {rest : List Oper} {o : Oper} {a : Act} {Q : Exit → Act → World → Prop} (hgd : o.guard = none) (sl x : Operand)
    (ho : o.op = .call { callee := .builtin .append, args := #[sl, x], argTypes := #[22, 22] })
    (B : Nat) (v : Value) (l : List UInt8) (hs : a.eval sl = v) (hown : OwnY w B v l) (g0 : Nat) (m : List UInt8) (c : Nat) (hx : a.eval x = .slice (some ⟨g0, 0, none⟩) m.length c) (hm : ∀ j (hj : j < m.length), w.cell? ⟨g0, j, none⟩ = some (.int .u8 m[j].toNat)) (hlen : l.length + m.length ≤ 4398046511104) (hB : B ≤ w.heap.size)
    (h : ∀ v' w', OwnY w' B v' (l ++ m) → w.grownBy w' v.ownBlock → (v'.ownBlock = v.ownBlock ∨ v'.ownBlock = some w.heap.size) → wpList Tryz.prog ops Q rest (a.put o.dst v') w') : wpList Tryz.prog ops Q (o :: rest) a w := by
  refine wpList_plain hgd fun K hK => ?_
  obtain ⟨v', w', hr, h2, h3, h4⟩ := run_append_byts w B v l o.type hown g0 m c hm hlen hB
  unfold Oper.wp execOp
  simp only [ho, resolve, invoke, builtin, Sem.run_bind, Sem.run_pure, Result.andThen_ok, List.map_toArray, List.map_cons, List.map_nil, hs, hx, hr]
  exact hK _ _ (h v' w' h2 h3 h4)
end Go.Proofs.YtkhnkockdfmkgabGreatDoor
namespace Go.Proofs.YtkhnkockdfmkgabGreatDoor
open Go.RowKit
set_option linter.unusedVariables false

theorem add_plainA (b o i : Nat) : (⟨b, o, none⟩ : Addr).add i = ⟨b, o + i, none⟩ := by unfold Addr.add; split <;> simp_all

theorem run_append_any (w : World) (B : Nat) (v : Value) (l : List UInt8) (ty : TypeId) (h : OwnY w B v l) (a : Option Addr) (m : List UInt8) (c C : Nat) (hy : Byt w C a m) (hs : l.length + m.length ≤ 4398046511104) (hB : B ≤ w.heap.size) :
    ∃ v' w', (Builtin.append_ #[22, 22] ty #[v, .slice a m.length c]).run Tryz.prog w = .ok v' w' ∧ OwnY w' B v' (l ++ m) ∧ w.grownBy w' v.ownBlock ∧ (v'.ownBlock = v.ownBlock ∨ v'.ownBlock = some w.heap.size) := by
  by_cases h0 : 0 < m.length
  · obtain ⟨b, o, rfl, _, hc⟩ := hy h0
    exact run_append_from w B v l ty h b o m c hc hs hB
  · have : m = [] := List.length_eq_zero_iff.1 (by omega)
    subst this
    refine ⟨v, w, ?_, by rw [List.append_nil]; exact h, ⟨rfl, rfl, rfl, Nat.le_refl _, fun _ _ _ => rfl⟩, .inl rfl⟩
    obtain ⟨g, cap, cur, fz, rfl, hBg, hg, hfz, hn, hcm, hcs, htake⟩ := h
    obtain ⟨i0, hi, hz0, hz1, hz2⟩ := info_parts infoU8
    cases a <;> simp [Builtin.append_, run_underlying Tryz.underlying22, sizeOf, typeInfo, hi, Builtin.lenOf, Builtin.firstCells, loadCells, loadCellsFrom, storeCells, hn]

theorem wp_append_any {w : World} {ops : Array Oper} {rest : List Oper} {o : Oper} {a : Act} {Q : Exit → Act → World → Prop} (hgd : o.guard = none) (sl x : Operand)
    (ho : o.op = .call { callee := .builtin .append, args := #[sl, x], argTypes := #[22, 22] })
    (B : Nat) (v : Value) (l : List UInt8) (hs : a.eval sl = v) (hown : OwnY w B v l) (am : Option Addr) (m : List UInt8) (c C : Nat) (hx : a.eval x = .slice am m.length c) (hy : Byt w C am m) (hlen : l.length + m.length ≤ 4398046511104) (hB : B ≤ w.heap.size)
    (h : ∀ v' w', OwnY w' B v' (l ++ m) → w.grownBy w' v.ownBlock → (v'.ownBlock = v.ownBlock ∨ v'.ownBlock = some w.heap.size) → wpList Tryz.prog ops Q rest (a.put o.dst v') w') : wpList Tryz.prog ops Q (o :: rest) a w := by
  refine wpList_plain hgd fun K hK => ?_
  obtain ⟨v', w', hr, h2, h3, h4⟩ := run_append_any w B v l o.type hown am m c C hy hlen hB
  unfold Oper.wp execOp
  simp only [ho, resolve, invoke, builtin, Sem.run_bind, Sem.run_pure, Result.andThen_ok, List.map_toArray, List.map_cons, List.map_nil, hs, hx, hr]
  exact hK _ _ (h v' w' h2 h3 h4)

/-- The slice v holds the bytes l: none at all, or a part of a row of the call's own, from B on, up to the row's end. -/
def OwnO (w : World) (B : Nat) (v : Value) (l : List UInt8) : Prop :=
  (v = .slice none 0 0 ∧ l = []) ∨ ∃ g o cap cur, v = .slice (some ⟨g, o, none⟩) l.length cap ∧ B ≤ g ∧ w.heap[g]? = some (.cells cur 5) ∧ l.length ≤ cap ∧ cap ≤ maxLen ∧ o + cap ≤ cur.size ∧ (cur.toList.drop o).take l.length = Lib.byteCells l
theorem OwnO.nil (w : World) (B : Nat) : OwnO w B (.slice none 0 0) [] := .inl ⟨rfl, rfl⟩
theorem OwnO.of {w w' : World} {B : Nat} {v : Value} {l : List UInt8} (h : OwnO w B v l) (hb : ∀ g, v.ownBlock = some g → w'.heap[g]? = w.heap[g]?) : OwnO w' B v l := by
  rcases h with h | ⟨g, o, cap, cur, rfl, hB, hg, hr⟩
  · exact .inl h
  · exact .inr ⟨g, o, cap, cur, rfl, hB, (hb g rfl).trans hg, hr⟩
theorem OwnO.lt {w : World} {B : Nat} {v : Value} {l : List UInt8} (h : OwnO w B v l) : ∀ g, v.ownBlock = some g → B ≤ g ∧ g < w.heap.size := by
  rcases h with ⟨rfl, _⟩ | ⟨g, o, cap, cur, rfl, hB, hg, hr⟩
  · intro g hg; cases hg
  · intro k hk
    have : g = k := Option.some.inj hk
    subst this
    exact ⟨hB, (Array.getElem?_eq_some_iff.1 hg).1⟩
theorem OwnO.next {w w' : World} {B : Nat} {v : Value} {l : List UInt8} (h : OwnO w B v l) (hb : Below w.heap.size w w') : OwnO w' B v l := h.of (fun g hg => hb.block g (h.lt g hg).2)
theorem OwnO.slice {w : World} {B : Nat} {v : Value} {l : List UInt8} (h : OwnO w B v l) : ∃ a c, v = .slice a l.length c ∧ l.length ≤ c ∧ c ≤ maxLen ∧ (a = none → l = [] ∧ c = 0) ∧ (∀ x, a = some x → x.spot = none) ∧ Byt w w.heap.size a l := by
  rcases h with ⟨rfl, rfl⟩ | ⟨g, o, cap, cur, rfl, hB, hg, h1, h2, h3, h4⟩
  · exact ⟨none, 0, rfl, Nat.le_refl _, Nat.zero_le _, fun _ => ⟨rfl, rfl⟩, (fun x e => by cases e), Byt.nil _ _ _⟩
  · refine ⟨some ⟨g, o, none⟩, cap, rfl, h1, h2, (fun e => by cases e), (fun x e => by have := Option.some.inj e; rw [← this]), fun _ => ⟨g, o, rfl, (Array.getElem?_eq_some_iff.1 hg).1, fun j hj => ?_⟩⟩
    have hx : cur.toList[o + j]? = some (.int .u8 l[j].toNat) := by
      have e : ((cur.toList.drop o).take l.length)[j]? = cur.toList[o + j]? := by rw [List.getElem?_take, if_pos hj, List.getElem?_drop]
      rw [← e, h4]
      simp [Lib.byteCells, List.getElem?_eq_getElem hj]
    simp [World.cell?, hg]
    simpa using hx
/-- What is left behind the first n bytes. -/
theorem OwnO.drop {w : World} {B g o c : Nat} {l : List UInt8} {n : Nat} (h : OwnO w B (.slice (some ⟨g, o, none⟩) l.length c) l) (hn : n ≤ l.length) : OwnO w B (.slice (if c = n then some ⟨g, o, none⟩ else some ⟨g, o + n, none⟩) (l.drop n).length (c - n)) (l.drop n) := by
  rcases h with ⟨h, _⟩ | ⟨g', o', cap, cur, e, hB, hg, h1, h2, h3, h4⟩
  · cases h
  · cases e
    by_cases hc : c = n
    · rw [if_pos hc]
      have e0 : l.drop n = [] := List.drop_eq_nil_of_le (by omega)
      rw [e0]
      exact .inr ⟨g, o, c - n, cur, rfl, hB, hg, Nat.zero_le _, by omega, by omega, rfl⟩
    · rw [if_neg hc]
      refine .inr ⟨g, o + n, c - n, cur, rfl, hB, hg, by rw [List.length_drop]; omega, by omega, by omega, ?_⟩
      rw [List.length_drop, ← List.drop_drop]
      have := congrArg (List.drop n) h4
      rw [List.drop_take] at this
      rw [this]
      simp [Lib.byteCells, List.map_drop]

theorem run_append_O (w : World) (B : Nat) (v : Value) (l : List UInt8) (ty : TypeId) (h : OwnO w B v l) (a : Option Addr) (m : List UInt8) (c C : Nat) (hy : Byt w C a m) (hs : l.length + m.length ≤ 1099511627776) (hB : B ≤ w.heap.size) :
    ∃ v' w', (Builtin.append_ #[22, 22] ty #[v, .slice a m.length c]).run Tryz.prog w = .ok v' w' ∧ OwnO w' B v' (l ++ m) ∧ w.grownBy w' v.ownBlock ∧ (v'.ownBlock = v.ownBlock ∨ v'.ownBlock = some w.heap.size) := by
  obtain ⟨i0, hi, hz0, hz1, hz2⟩ := info_parts infoU8
  by_cases h0 : 0 < m.length
  · obtain ⟨g0, o0, rfl, _, hm⟩ := hy h0
    have hlen : (l ++ m).length = l.length + m.length := List.length_append
    have hnews : ∀ j u, (Lib.byteCells m)[j]? = some u → w.cell? ((⟨g0, o0, none⟩ : Addr).add j) = some u := by
      intro j u hu
      have hj : j < m.length := by
        have := (List.getElem?_eq_some_iff.1 hu).1
        rwa [Lib.byteCells_length] at this
      rw [add_plainA, hm j hj]
      simp [Lib.byteCells, List.getElem?_eq_getElem hj] at hu
      rw [← hu]
    have hone : ∀ u ∈ Lib.byteCells m, u.oneCell' = true := by
      intro u hu
      simp only [Lib.byteCells, List.mem_map] at hu
      obtain ⟨c, _, rfl⟩ := hu
      rfl
    rcases h with ⟨rfl, rfl⟩ | ⟨g, o, cap, cur, rfl, hBg, hg, hn, hcm, hcs, htake⟩
    · have hr := run_append_nil (P := Tryz.prog) w 22 ty 5 i0 (.int .u8 0) Tryz.underlying22 hi hz0 ⟨g0, o0, none⟩ m.length c (Lib.byteCells m) (by rw [hz1, Lib.byteCells_length, Nat.mul_one]) hnews h0 (by simp at hs; omega) (by rw [hz2]; simp at hs; omega)
      have hge := grownCap_ge w m.length 0 5
      have hcm2 : grownCap w m.length 0 5 ≤ maxLen := grownCap_le_maxLen w m.length 0 5 (by unfold maxLen; simp at hs; omega)
      refine ⟨_, _, hr, .inr ⟨w.heap.size, 0, _, _, by rw [List.nil_append], hB, heap_alloc_new w.drew _, by rw [List.nil_append]; exact hge, hcm2, ?_, ?_⟩, ⟨rfl, rfl, rfl, by simp, fun k hk _ => ((Below.refl w.drew.heap.size w.drew).alloc (Nat.le_refl _) _).block k (by show k < w.heap.size; omega)⟩, .inr rfl⟩
      · have hz1' : (Value.int IntKind.u8 0).cells.size = 1 := rfl
        simp only [Array.size_append, List.size_toArray, size_zeroCells, hz1', Lib.byteCells_length]
        omega
      · simp only [Array.toList_append, List.drop_zero, List.nil_append]
        have : m.length = (Lib.byteCells m).length := by rw [Lib.byteCells_length]
        rw [this]
        exact List.take_left
    · have hgl : g < w.heap.size := (Array.getElem?_eq_some_iff.1 hg).1
      by_cases hroom : l.length + m.length ≤ cap
      · have hf := run_firstCells_some (P := Tryz.prog) w 1 m.length ⟨g0, o0, none⟩ m.length c (Lib.byteCells m) (by rw [Lib.byteCells_length]; omega) hnews
        have hst := storeCells_behind Tryz.prog g (o + l.length) 5 (0, 0) (Lib.byteCells m) 0 cur w hg (.inl rfl) (by rw [Lib.byteCells_length]; omega) hone
        simp only [Nat.add_zero, Lib.byteCells_length] at hst
        refine ⟨.slice (some ⟨g, o, none⟩) (l.length + m.length) cap, w.setRow g (cur.toList.take (o + l.length) ++ Lib.byteCells m ++ cur.toList.drop (o + l.length + m.length)).toArray, ?_, ?_, ?_⟩
        · simp [Builtin.append_, run_underlying Tryz.underlying22, sizeOf, typeInfo, hi, hz1, Builtin.lenOf, hroom, hf, add_plainA, hst]
        · refine .inr ⟨g, o, cap, _, by rw [hlen], hBg, setRow_heap w g cur _ 5 _ hg, by omega, hcm, ?_, ?_⟩
          · simp only [List.size_toArray, List.length_append, List.length_take, List.length_drop, Array.length_toList, Lib.byteCells_length]
            omega
          · have e1 : cur.toList.take (o + l.length) = cur.toList.take o ++ Lib.byteCells l := by rw [List.take_add, htake]
            have e2 : (cur.toList.take o).length = o := by rw [List.length_take, Array.length_toList]; omega
            rw [e1, List.append_assoc, List.append_assoc, List.drop_left' e2, ← List.append_assoc, ← Lib.byteCells_append]
            have : (l ++ m).length = (Lib.byteCells (l ++ m)).length := by rw [Lib.byteCells_length]
            rw [this]
            exact List.take_left
        · exact ⟨⟨rfl, rfl, rfl, by simp, fun k _ hk => setRow_other w g k _ (fun e => hk (by simp [Value.ownBlock, e]))⟩, .inl rfl⟩
      · have holds : ∀ j u, (Lib.byteCells l)[j]? = some u → w.cell? ((⟨g, o, none⟩ : Addr).add j) = some u := by
          intro j u hu
          rw [add_plainA, ← htake] at *
          rw [List.getElem?_take] at hu
          split at hu
          · rw [List.getElem?_drop] at hu
            simp [World.cell?, hg]; simpa using hu
          · cases hu
        have hr := run_append_grow (P := Tryz.prog) w 22 ty 5 i0 (.int .u8 0) Tryz.underlying22 hi hz0 ⟨g, o, none⟩ l.length cap (Lib.byteCells l) (by rw [hz1, Lib.byteCells_length, Nat.mul_one]) holds ⟨g0, o0, none⟩ m.length c (Lib.byteCells m) (by rw [hz1, Lib.byteCells_length, Nat.mul_one]) hnews (by omega) (by omega) (by rw [hz2]; exact growslice_fits (by omega) (by omega))
        have hge := grownCap_ge w (l.length + m.length) cap 5
        have hcm2 : grownCap w (l.length + m.length) cap 5 ≤ maxLen := grownCap_le_maxLen w (l.length + m.length) cap 5 (by unfold maxLen; omega)
        refine ⟨_, _, hr, .inr ⟨w.heap.size, 0, _, _, by rw [hlen], hB, heap_alloc_new w.drew _, by omega, hcm2, ?_, ?_⟩, ⟨rfl, rfl, rfl, by simp, fun k hk _ => ((Below.refl w.drew.heap.size w.drew).alloc (Nat.le_refl _) _).block k (by show k < w.heap.size; omega)⟩, .inr rfl⟩
        · have hz1' : (Value.int IntKind.u8 0).cells.size = 1 := rfl
          simp only [Array.size_append, List.size_toArray, size_zeroCells, hz1', Lib.byteCells_length]
          omega
        · simp only [Array.toList_append, List.append_assoc, List.drop_zero]
          rw [← List.append_assoc, ← Lib.byteCells_append]
          have : (l ++ m).length = (Lib.byteCells (l ++ m)).length := by rw [Lib.byteCells_length]
          rw [this]
          exact List.take_left
  · have : m = [] := List.length_eq_zero_iff.1 (by omega)
    subst this
    refine ⟨v, w, ?_, by rw [List.append_nil]; exact h, ⟨rfl, rfl, rfl, Nat.le_refl _, fun _ _ _ => rfl⟩, .inl rfl⟩
    rcases h with ⟨rfl, rfl⟩ | ⟨g, o, cap, cur, rfl, hBg, hg, hn, hcm, hcs, htake⟩
    · cases a <;> simp [Builtin.append_, run_underlying Tryz.underlying22, sizeOf, typeInfo, hi, Builtin.lenOf, Builtin.firstCells, loadCells, loadCellsFrom]
    · cases a <;> simp [Builtin.append_, run_underlying Tryz.underlying22, sizeOf, typeInfo, hi, Builtin.lenOf, Builtin.firstCells, loadCells, loadCellsFrom, storeCells, hn]
end Go.Proofs.YtkhnkockdfmkgabGreatDoor
namespace Go.Proofs.YtkhnkockdfmkgabGreatDoor.M
set_option linter.unusedVariables false

theorem getR_nil : getR [] = (zeroR, 0, 1) := by
  rw [getR_no (show heL [] < 0 by decide)]; rfl
theorem getR_pos {l : List UInt8} (h : (getR l).2.2 = 0) : 0 < (getR l).2.1 := by
  rcases Nat.eq_zero_or_pos (getR l).2.1 with e | e
  · have h1 := getR_here (i := 0) h (by omega)
    rw [List.take_zero, getR_nil] at h1
    rw [← h1] at h
    exact absurd h (by decide)
  · exact e

/-- What is read of bytes: requests, what is left, and why nothing more is read (0: there may be more). -/
def drainL (l : List UInt8) : List Rq × List UInt8 × Int :=
  if h : (getR l).2.2 = 0 then ((getR l).1 :: (drainL (l.drop (getR l).2.1)).1, (drainL (l.drop (getR l).2.1)).2)
  else if (getR l).2.2 = 1 then ([], l, 0) else ([], [], (getR l).2.2)
termination_by l.length
decreasing_by
  all_goals
    have h1 := getR_pos h
    have h2 := (getR_ok h).2
    rw [List.length_drop]
    omega
theorem drain_good {l : List UInt8} (h : (getR l).2.2 = 0) : drainL l = ((getR l).1 :: (drainL (l.drop (getR l).2.1)).1, (drainL (l.drop (getR l).2.1)).2) := by
  rw [drainL, dif_pos h]
theorem drain_more {l : List UInt8} (h : (getR l).2.2 = 1) : drainL l = ([], l, 0) := by
  rw [drainL, dif_neg (by rw [h]; decide), if_pos h]
theorem drain_bad {l : List UInt8} (h : (getR l).2.2 ≠ 0) (h1 : (getR l).2.2 ≠ 1) : drainL l = ([], [], (getR l).2.2) := by
  rw [drainL, dif_neg h, if_neg h1]
theorem drain_nil : drainL [] = ([], [], 0) := drain_more (by rw [getR_nil])

/-- All that is read of it is right; there is no more of it than bytes; what is left is no longer. -/
theorem drain_all (n : Nat) : ∀ l : List UInt8, l.length ≤ n → (∀ r ∈ (drainL l).1, reqB r = true) ∧ (drainL l).1.length ≤ l.length ∧ (drainL l).2.1.length ≤ l.length := by
  induction n with
  | zero =>
    intro l hl
    obtain rfl : l = [] := List.length_eq_zero_iff.1 (by omega)
    rw [drain_nil]
    exact ⟨(fun r h => by cases h), Nat.le_refl _, Nat.le_refl _⟩
  | succ n ih =>
    intro l hl
    by_cases h : (getR l).2.2 = 0
    · have h1 := getR_pos h
      have h2 := (getR_ok h).2
      obtain ⟨i1, i2, i3⟩ := ih (l.drop (getR l).2.1) (by rw [List.length_drop]; omega)
      rw [List.length_drop] at i2 i3
      rw [drain_good h]
      refine ⟨fun r hr => ?_, by simp only [List.length_cons]; omega, by show (drainL (l.drop (getR l).2.1)).2.1.length ≤ _; omega⟩
      rcases List.mem_cons.1 hr with rfl | hr
      · exact (getR_ok h).1
      · exact i1 r hr
    · by_cases h1 : (getR l).2.2 = 1
      · rw [drain_more h1]
        exact ⟨(fun r h => by cases h), Nat.zero_le _, Nat.le_refl _⟩
      · rw [drain_bad h h1]
        exact ⟨(fun r h => by cases h), Nat.zero_le _, Nat.zero_le _⟩

/-- What a wire is behind it, and what was read. -/
def feedM (buf : List UInt8) (bad : Int) (b : List UInt8) : List Rq × List UInt8 × Int :=
  if bad = 0 then drainL (buf ++ b) else ([], buf, bad)
theorem feedM_bad {buf b : List UInt8} {bad : Int} (h : bad ≠ 0) : feedM buf bad b = ([], buf, bad) := by unfold feedM; rw [if_neg h]
theorem feedM_good (buf b : List UInt8) : feedM buf 0 b = drainL (buf ++ b) := by unfold feedM; rw [if_pos rfl]
theorem feedM_all (buf : List UInt8) (bad : Int) (b : List UInt8) : (∀ r ∈ (feedM buf bad b).1, reqB r = true) ∧ (feedM buf bad b).1.length ≤ buf.length + b.length ∧ (feedM buf bad b).2.1.length ≤ buf.length + b.length := by
  by_cases h : bad = 0
  · subst h
    rw [feedM_good]
    have := drain_all _ (buf ++ b) (Nat.le_refl _)
    rwa [List.length_append] at this
  · rw [feedM_bad h]
    exact ⟨(fun r h => by cases h), Nat.zero_le _, Nat.le_add_right _ _⟩
/-- All pieces, one behind the other. -/
def feedsM : List (List UInt8) → List UInt8 → Int → List Rq × List UInt8 × Int
  | [], buf, bad => ([], buf, bad)
  | b :: ls, buf, bad => ((feedM buf bad b).1 ++ (feedsM ls (feedM buf bad b).2.1 (feedM buf bad b).2.2).1, (feedsM ls (feedM buf bad b).2.1 (feedM buf bad b).2.2).2)

theorem feedsM_snoc : ∀ (ls : List (List UInt8)) (b buf : List UInt8) (bad : Int), feedsM (ls ++ [b]) buf bad = ((feedsM ls buf bad).1 ++ (feedM (feedsM ls buf bad).2.1 (feedsM ls buf bad).2.2 b).1, (feedM (feedsM ls buf bad).2.1 (feedsM ls buf bad).2.2 b).2)
  | [], b, buf, bad => by simp [feedsM]
  | x :: ls, b, buf, bad => by
    have ih := feedsM_snoc ls b (feedM buf bad x).2.1 (feedM buf bad x).2.2
    show ((feedM buf bad x).1 ++ (feedsM (ls ++ [b]) (feedM buf bad x).2.1 (feedM buf bad x).2.2).1, (feedsM (ls ++ [b]) (feedM buf bad x).2.1 (feedM buf bad x).2.2).2) = _
    rw [ih]
    show _ = (((feedM buf bad x).1 ++ (feedsM ls (feedM buf bad x).2.1 (feedM buf bad x).2.2).1) ++ _, _)
    rw [List.append_assoc]
    rfl
theorem drain_count (n : Nat) : ∀ l : List UInt8, l.length ≤ n → (drainL l).1.length + (drainL l).2.1.length ≤ l.length := by
  induction n with
  | zero =>
    intro l hl
    obtain rfl : l = [] := List.length_eq_zero_iff.1 (by omega)
    rw [drain_nil]
    exact Nat.le_refl _
  | succ n ih =>
    intro l hl
    by_cases h : (getR l).2.2 = 0
    · have h1 := getR_pos h
      have h2 := (getR_ok h).2
      have i1 := ih (l.drop (getR l).2.1) (by rw [List.length_drop]; omega)
      rw [List.length_drop] at i1
      rw [drain_good h]
      simp only [List.length_cons]
      omega
    · by_cases h1 : (getR l).2.2 = 1
      · rw [drain_more h1]; simp
      · rw [drain_bad h h1]; simp
theorem feedM_count (buf : List UInt8) (bad : Int) (b : List UInt8) : (feedM buf bad b).1.length + (feedM buf bad b).2.1.length ≤ buf.length + b.length := by
  by_cases h : bad = 0
  · subst h
    rw [feedM_good]
    have := drain_count _ (buf ++ b) (Nat.le_refl _)
    rwa [List.length_append] at this
  · rw [feedM_bad h]
    simp
theorem feedsM_all : ∀ (ls : List (List UInt8)) (buf : List UInt8) (bad : Int), (∀ r ∈ (feedsM ls buf bad).1, reqB r = true) ∧ (feedsM ls buf bad).1.length + (feedsM ls buf bad).2.1.length ≤ buf.length + ls.flatten.length
  | [], buf, bad => ⟨(fun r h => by cases h), by simp [feedsM]⟩
  | b :: ls, buf, bad => by
    obtain ⟨i1, i2⟩ := feedsM_all ls (feedM buf bad b).2.1 (feedM buf bad b).2.2
    have h1 := (feedM_all buf bad b).1
    have h2 := feedM_count buf bad b
    refine ⟨fun r hr => ?_, ?_⟩
    · rcases List.mem_append.1 hr with hr | hr
      · exact h1 r hr
      · exact i1 r hr
    · show ((feedM buf bad b).1 ++ (feedsM ls (feedM buf bad b).2.1 (feedM buf bad b).2.2).1).length + (feedsM ls (feedM buf bad b).2.1 (feedM buf bad b).2.2).2.1.length ≤ _
      rw [List.length_append, List.flatten_cons, List.length_append]
      omega

theorem getR_more_of {l : List UInt8} (m : List UInt8) (h : (getR l).2.2 ≠ 1) : getR (l ++ m) = getR l := by
  have e : (l ++ m).take l.length = l := List.take_left
  have := getR_stay (l := l ++ m) (i := l.length) (by rw [e]; exact h)
  rwa [e] at this
theorem drain_append (n : Nat) : ∀ (l m : List UInt8), l.length ≤ n → drainL (l ++ m) = ((drainL l).1 ++ (feedM (drainL l).2.1 (drainL l).2.2 m).1, (feedM (drainL l).2.1 (drainL l).2.2 m).2) := by
  induction n with
  | zero =>
    intro l m hl
    obtain rfl : l = [] := List.length_eq_zero_iff.1 (by omega)
    rw [drain_nil]
    show _ = (([] : List Rq) ++ (feedM [] 0 m).1, (feedM [] 0 m).2)
    rw [feedM_good]
    rfl
  | succ n ih =>
    intro l m hl
    by_cases h : (getR l).2.2 = 0
    · have h1 := getR_pos h
      have h2 := (getR_ok h).2
      have e := getR_more_of m (by rw [h]; decide)
      have i1 := ih (l.drop (getR l).2.1) m (by rw [List.length_drop]; omega)
      rw [drain_good (by rw [e]; exact h), e, List.drop_append_of_le_length h2, i1, drain_good h]
      rfl
    · by_cases h1 : (getR l).2.2 = 1
      · rw [drain_more h1]
        show _ = (([] : List Rq) ++ (feedM l 0 m).1, (feedM l 0 m).2)
        rw [feedM_good]
        rfl
      · have e := getR_more_of m h1
        rw [drain_bad (by rw [e]; exact h) (by rw [e]; exact h1), e, drain_bad h h1]
        show _ = (([] : List Rq) ++ (feedM [] (getR l).2.2 m).1, (feedM [] (getR l).2.2 m).2)
        rw [feedM_bad h]
        rfl
/-- However bytes are cut, the same requests are read, and the same is left. -/
theorem feedsM_flat : ∀ (ls : List (List UInt8)) (buf : List UInt8), (getR buf).2.2 = 1 → feedsM ls buf 0 = drainL (buf ++ ls.flatten) := by
  suffices H : ∀ (ls : List (List UInt8)) (l : List UInt8), feedsM ls (drainL l).2.1 (drainL l).2.2 = (((feedM (drainL l).2.1 (drainL l).2.2 ls.flatten).1), (feedM (drainL l).2.1 (drainL l).2.2 ls.flatten).2) by
    intro ls buf h
    have := H ls buf
    rw [drain_more h] at this
    rw [this]
    show ((feedM buf 0 _).1, (feedM buf 0 _).2) = _
    rw [feedM_good]
  intro ls
  induction ls with
  | nil =>
    intro l
    have := drain_append l.length l [] (Nat.le_refl _)
    rw [List.append_nil] at this
    show ([], (drainL l).2.1, (drainL l).2.2) = _
    have e1 := congrArg Prod.fst this
    have e2 := congrArg Prod.snd this
    simp only at e1 e2
    have e3 : (feedM (drainL l).2.1 (drainL l).2.2 []).1 = [] := by
      have := congrArg List.length e1
      rw [List.length_append] at this
      exact List.length_eq_zero_iff.1 (by omega)
    rw [List.flatten_nil, e3, ← e2]
  | cons b ls ih =>
    intro l
    have h1 := drain_append l.length l b (Nat.le_refl _)
    have h2 := drain_append l.length l (b ++ ls.flatten) (Nat.le_refl _)
    have h3 := drain_append (l ++ b).length (l ++ b) ls.flatten (Nat.le_refl _)
    have h4 := ih (l ++ b)
    rw [List.append_assoc, h2, h1] at h3
    rw [h1] at h4
    simp only at h3 h4
    have e1 := congrArg Prod.fst h3
    have e2 := congrArg Prod.snd h3
    simp only [List.append_assoc] at e1 e2
    have e1' := List.append_cancel_left e1
    rw [List.flatten_cons]
    show ((feedM (drainL l).2.1 (drainL l).2.2 b).1 ++ (feedsM ls (feedM (drainL l).2.1 (drainL l).2.2 b).2.1 (feedM (drainL l).2.1 (drainL l).2.2 b).2.2).1, (feedsM ls (feedM (drainL l).2.1 (drainL l).2.2 b).2.1 (feedM (drainL l).2.1 (drainL l).2.2 b).2.2).2) = _
    rw [h4, e1', e2]
end Go.Proofs.YtkhnkockdfmkgabGreatDoor.M
namespace Go.Proofs.YtkhnkockdfmkgabGreatDoor
open Go.RowKit M
set_option linter.unusedVariables false

set_option maxRecDepth 100000 in
set_option maxHeartbeats 400000 in
theorem index_nil (w : World) (g : Nat) :
    Calls Tryz.prog 73 #[.slice none 0 0, .slice (some ⟨g, 0, none⟩) 4 4] w fun e w' => e = .returned (.int .i64 (-1)) ∧ w' = w := by
  go_enter Tryz.func73, Tryz.ntmps73
  go_wp2
  go_ret
  exact ⟨rfl, rfl⟩
set_option maxRecDepth 100000 in
set_option maxHeartbeats 400000 in
theorem headEnd_nil (w : World) :
    Calls Tryz.prog 68 #[.slice none 0 0] w fun e w' => e = .returned (.int .i64 (-1)) ∧ Below w.heap.size w w' := by
  have kc := fun (w : World) (C : Array Value) (n c : Nat) => Lib.run_convert_bytes_const w 22 5 C n c Tryz.underlying22 Tryz.underlying5
  go_enter Tryz.func68, Tryz.ntmps68
  go_wp2_with fail
  refine (index_nil _ _).mono ?_
  rintro e w1 ⟨rfl, hw⟩
  have b1 : Below w.heap.size w w1 := by rw [hw]; exact (Below.refl _ _).alloc (Nat.le_refl _) _
  clear hw
  go_wp2
  go_ret
  exact ⟨rfl, b1⟩
set_option maxRecDepth 100000 in
set_option maxHeartbeats 1000000 in
theorem getReq_nil (w : World) :
    Calls Tryz.prog 61 #[.slice none 0 0] w fun e w' => GotIs w' w.heap.size (getR []) e ∧ Below w.heap.size w w' := by
  obtain ⟨w0, hw0⟩ : ∃ w0, w.alloc (Obj.cells #[.string ⟨#[]⟩, .string ⟨#[]⟩, .slice none 0 0, .string ⟨#[]⟩] 47) = w0 := ⟨_, rfl⟩
  have c0 : Below w.heap.size w w0 := by rw [← hw0]; exact (Below.refl _ _).alloc (Nat.le_refl _) _
  have z0 : ZeroB w.heap.size w0 := by rw [← hw0]; exact heap_alloc_new w _
  have C0 := hide c0
  have Z0 := hide z0
  have HG := hide getR_nil
  clear c0 z0
  go_enter Tryz.func61, Tryz.ntmps61
  go_wp2_with fail
  try rw [hw0]
  refine (headEnd_nil w0).mono ?_
  rintro e w1 ⟨rfl, b1⟩
  have hZ1 := Z0.out.next b1
  have C1 := hide (C0.out.trans (b1.mono C0.out.size))
  obtain ⟨q0, q1, q2, q3, f0, f1, f2, f3⟩ := hZ1.cells
  have HZ1 := hide hZ1
  clear hw0 b1 hZ1
  go_wp2
  refine bodyPost_ret (results_get _ w.heap.size _ _ _ _ _ _ _ rfl rfl rfl (set4_heap HZ1.out _ _ _ _)) rfl ?_
  rw [HG.out]
  exact ⟨GotIs.bad _ _ _, set4_below C1.out (Nat.le_refl _) _ _ _ _⟩
/-- Of bytes of the call's own, perhaps none. -/
theorem getReq_own (B : Nat) (v : Value) (l : List UInt8) (mx : Int) (w : World) (h : OwnO w B v l) (hl : l.length ≤ 4194304) (h0 : 0 < w.heap.size) (hmx : w.cell? ⟨0, 0, none⟩ = some (.int .i64 mx)) :
    Calls Tryz.prog 61 #[v] w fun e w' => GotIs w' w.heap.size (getR l) e ∧ Below w.heap.size w w' := by
  have hs := h.slice
  rcases h with ⟨rfl, rfl⟩ | ⟨g, o, cap, cur, rfl, hB, hg, h1, h2, h3, h4⟩
  · exact getReq_nil w
  · obtain ⟨a, c, e, q1, q2, _, _, q3⟩ := hs
    cases e
    exact getReq_any g o l cap mx w q3 hl q1 q2 h0 hmx
end Go.Proofs.YtkhnkockdfmkgabGreatDoor
namespace Go.Proofs.YtkhnkockdfmkgabGreatDoor
open Go.RowKit M
set_option linter.unusedVariables false

/-- A request, and the slice of its heads. -/
abbrev Rv := Rq × Value
def rvCells (qs : List Rv) : List Value := qs.flatMap fun q => [.string q.1.m, .string q.1.p, q.2, .string q.1.b]
theorem rvCells_length (qs : List Rv) : (rvCells qs).length = qs.length * 4 := by
  induction qs with
  | nil => rfl
  | cons h r ih => simp only [rvCells, List.flatMap_cons, List.length_append, List.length_cons, List.length_nil] at *; omega
theorem rvCells_append (qs ts : List Rv) : rvCells (qs ++ ts) = rvCells qs ++ rvCells ts := by simp [rvCells]
theorem rvCells_at (qs : List Rv) : ∀ j (hj : j < qs.length), (rvCells qs)[j * 4]? = some (.string qs[j].1.m) ∧ (rvCells qs)[j * 4 + 1]? = some (.string qs[j].1.p) ∧ (rvCells qs)[j * 4 + 2]? = some qs[j].2 ∧ (rvCells qs)[j * 4 + 3]? = some (.string qs[j].1.b) := by
  induction qs with
  | nil => intro j hj; cases hj
  | cons h r ih =>
    intro j hj
    have e : rvCells (h :: r) = .string h.1.m :: .string h.1.p :: h.2 :: .string h.1.b :: rvCells r := rfl
    rw [e]
    cases j with
    | zero => exact ⟨rfl, rfl, rfl, rfl⟩
    | succ j =>
      have h1 := ih j (by simpa using hj)
      have e1 : (j + 1) * 4 = j * 4 + 1 + 1 + 1 + 1 := by omega
      have e2 : (j + 1) * 4 + 1 = j * 4 + 1 + 1 + 1 + 1 + 1 := by omega
      have e3 : (j + 1) * 4 + 2 = j * 4 + 2 + 1 + 1 + 1 + 1 := by omega
      have e4 : (j + 1) * 4 + 3 = j * 4 + 3 + 1 + 1 + 1 + 1 := by omega
      rw [e2, e3, e4, e1]
      simp only [List.getElem?_cons_succ, List.getElem_cons_succ]
      exact h1

theorem infoRq : (Tryz.prog.info? 47).map (fun i => (i.zero, i.size, i.bytes)) = some (some (.agg #[.string ByteArray.empty, .string ByteArray.empty, .slice none 0 0, .string ByteArray.empty]), 4, 72) := by kernel_rfl

/-- A row of requests, and each one's heads, all of the call's own, from B on, each in a block of its own. -/
structure RowsQ (w : World) (B : Nat) (v : Value) (qs : List Rv) : Prop where
  own : w.ownsRow B 47 4 v qs.length (rvCells qs)
  heads : ∀ q ∈ qs, RowsH w B q.2 q.1.hs
  apart : ∀ q ∈ qs, ApartV q.2 v
  pair : qs.Pairwise fun a b => ApartV a.2 b.2
theorem RowsQ.nul (w : World) (B : Nat) : RowsQ w B (.slice none 0 0) [] := ⟨World.ownsRow_nil _ _ _ _, (fun q h => by cases h), (fun q h => by cases h), List.Pairwise.nil⟩
theorem RowsQ.same {w w' : World} {B : Nat} {v : Value} {qs : List Rv} (h : RowsQ w B v qs) (hb : ∀ k, B ≤ k → k < w.heap.size → w'.heap[k]? = w.heap[k]?) : RowsQ w' B v qs := by
  refine ⟨⟨h.own.1, ?_⟩, fun q hq => ?_, h.apart, h.pair⟩
  · rcases h.own.2 with h | ⟨g, cap, cur, e, hB, hh, hr⟩
    · exact .inl h
    · exact .inr ⟨g, cap, cur, e, hB, (hb g hB (Array.getElem?_eq_some_iff.1 hh).1).trans hh, hr⟩
  · have h1 := h.heads q hq
    refine ⟨h1.1, ?_⟩
    rcases h1.2 with h | ⟨g, cap, cur, e, hB, hh, hr⟩
    · exact .inl h
    · exact .inr ⟨g, cap, cur, e, hB, (hb g hB (Array.getElem?_eq_some_iff.1 hh).1).trans hh, hr⟩
theorem RowsQ.next {w w' : World} {B : Nat} {v : Value} {qs : List Rv} (h : RowsQ w B v qs) (hb : Below w.heap.size w w') : RowsQ w' B v qs := h.same (fun k _ hk => hb.block k hk)
theorem RowsQ.base {w : World} {B C : Nat} {v : Value} {qs : List Rv} (h : RowsQ w B v qs) (hC : C ≤ B) : RowsQ w C v qs := by
  refine ⟨⟨h.own.1, ?_⟩, fun q hq => (h.heads q hq).base hC, h.apart, h.pair⟩
  rcases h.own.2 with h | ⟨g, cap, cur, e, hB, hr⟩
  · exact .inl h
  · exact .inr ⟨g, cap, cur, e, Nat.le_trans hC hB, hr⟩
/-- A store into a block below. -/
theorem RowsQ.store {w : World} {B : Nat} {v : Value} {qs : List Rv} (h : RowsQ w B v qs) {N : Nat} (hN : N < B) (o : Nat) (u : Value) : RowsQ (w.setCell ⟨N, o, none⟩ u) B v qs :=
  h.same (fun k hk _ => Below.heap_setCell _ _ _ _ (by show k ≠ N; omega))

theorem RowsH.lt {w : World} {B : Nat} {v : Value} {hs : List Hd} (h : RowsH w B v hs) : ∀ g, v.ownBlock = some g → B ≤ g ∧ g < w.heap.size := fun g hg => World.ownsRow.lt h g hg

theorem run_append_req (w : World) (B : Nat) (v : Value) (qs : List Rv) (ty : TypeId) (hown : RowsQ w B v qs)
    (N : Nat) (q : Rv) (hc0 : w.cell? ⟨N, 0, none⟩ = some (.string q.1.m)) (hc1 : w.cell? ⟨N, 1, none⟩ = some (.string q.1.p)) (hc2 : w.cell? ⟨N, 2, none⟩ = some q.2) (hc3 : w.cell? ⟨N, 3, none⟩ = some (.string q.1.b))
    (hq : RowsH w B q.2 q.1.hs) (hqa : ApartV q.2 v) (hqs : ∀ p ∈ qs, ApartV p.2 q.2) (hlen : qs.length + 1 ≤ 1000000000) (hB : B ≤ w.heap.size) :
    ∃ g cap w', (Builtin.append_ #[27, 27] ty #[v, .slice (some ⟨N, 0, none⟩) 1 1]).run Tryz.prog w = .ok (.slice (some ⟨g, 0, none⟩) (qs.length + 1) cap) w' ∧ RowsQ w' B (.slice (some ⟨g, 0, none⟩) (qs.length + 1) cap) (qs ++ [q]) ∧ w.grownBy w' v.ownBlock ∧ (v.ownBlock = some g ∨ g = w.heap.size) := by
  obtain ⟨i0, hi, hz0, hz1, hz2⟩ := info_parts infoRq
  have hnews : ∀ j u, [Value.string q.1.m, Value.string q.1.p, q.2, Value.string q.1.b][j]? = some u → w.cell? ((⟨N, 0, none⟩ : Addr).add j) = some u := by
    intro j u hj
    have e : ∀ k, (⟨N, 0, none⟩ : Addr).add k = ⟨N, k, none⟩ := fun k => by unfold Addr.add; split <;> simp_all
    rw [e]
    match j, hj with
    | 0, hj => simp at hj; subst hj; exact hc0
    | 1, hj => simp at hj; subst hj; exact hc1
    | 2, hj => simp at hj; subst hj; exact hc2
    | 3, hj => simp at hj; subst hj; exact hc3
  obtain ⟨aq, cq, hvq, _⟩ := RowsH.hds hq
  have hone : ∀ u ∈ [Value.string q.1.m, Value.string q.1.p, q.2, Value.string q.1.b], u.oneCell' = true := by
    intro u hu
    simp only [List.mem_cons, List.not_mem_nil, or_false] at hu
    rcases hu with rfl | rfl | rfl | rfl
    · rfl
    · rfl
    · rw [hvq]; rfl
    · rfl
  obtain ⟨v', w', hrun, ho', hg, _, hwh⟩ := run_append_own_at (P := Tryz.prog) w B 27 ty 47 i0 _ 4 72 Tryz.underlying27 hi hz0 hz1 hz2 rfl (by decide) v qs.length _ hown.own ⟨N, 0, none⟩ 1 1 [.string q.1.m, .string q.1.p, q.2, .string q.1.b] rfl hnews hone (by unfold maxLen; omega) (by omega) hB
  obtain ⟨g, cap, rfl⟩ : ∃ g cap, v' = .slice (some ⟨g, 0, none⟩) (qs.length + 1) cap := by
    rcases ho'.2 with ⟨_, h0⟩ | ⟨g, cap, cur, hv, _⟩
    · omega
    · exact ⟨g, cap, hv⟩
  have hwhere : v.ownBlock = some g ∨ g = w.heap.size := by
    rcases hwh with e | e
    · exact .inl e.symm
    · exact .inr (Option.some.inj e)
  have hap : ∀ u hs, RowsH w B u hs → ApartV u v → ApartV u (.slice (some ⟨g, 0, none⟩) (qs.length + 1) cap) := fun u hs hu ha => (ApartV.grown ha.symm hu hwhere).symm
  have hkp : ∀ u hs, RowsH w B u hs → ApartV u v → RowsH w' B u hs := fun u hs hu ha => RowsH.kept hu ha.symm hg
  refine ⟨g, cap, w', hrun, ⟨?_, ?_, ?_, ?_⟩, hg, hwhere⟩
  · rw [rvCells_append, List.length_append]; exact ho'
  · intro p hp
    rcases List.mem_append.1 hp with hp | hp
    · exact hkp _ _ (hown.heads p hp) (hown.apart p hp)
    · simp at hp; subst hp; exact hkp _ _ hq hqa
  · intro p hp
    rcases List.mem_append.1 hp with hp | hp
    · exact hap _ _ (hown.heads p hp) (hown.apart p hp)
    · simp at hp; subst hp; exact hap _ _ hq hqa
  · rw [List.pairwise_append]
    exact ⟨hown.pair, List.pairwise_singleton _ _, fun p hp q' hq' => by simp at hq'; subst hq'; exact hqs p hp⟩
/-- 'l = append(l, r)'. -/
theorem wp_append_req {w : World} {ops : Array Oper} {rest : List Oper} {o : Oper} {a : Act} {Q : Exit → Act → World → Prop} (hgd : o.guard = none) (s x : Operand)
    (ho : o.op = .call { callee := .builtin .append, args := #[s, x], argTypes := #[27, 27] })
    (B : Nat) (v : Value) (qs : List Rv) (hs : a.eval s = v) (hown : RowsQ w B v qs)
    (N : Nat) (q : Rv) (hx : a.eval x = .slice (some ⟨N, 0, none⟩) 1 1) (hc0 : w.cell? ⟨N, 0, none⟩ = some (.string q.1.m)) (hc1 : w.cell? ⟨N, 1, none⟩ = some (.string q.1.p)) (hc2 : w.cell? ⟨N, 2, none⟩ = some q.2) (hc3 : w.cell? ⟨N, 3, none⟩ = some (.string q.1.b))
    (hq : RowsH w B q.2 q.1.hs) (hqa : ApartV q.2 v) (hqs : ∀ p ∈ qs, ApartV p.2 q.2) (hlen : qs.length + 1 ≤ 1000000000) (hB : B ≤ w.heap.size)
    (h : ∀ g cap w', RowsQ w' B (.slice (some ⟨g, 0, none⟩) (qs.length + 1) cap) (qs ++ [q]) → w.grownBy w' v.ownBlock → (v.ownBlock = some g ∨ g = w.heap.size) → wpList Tryz.prog ops Q rest (a.put o.dst (.slice (some ⟨g, 0, none⟩) (qs.length + 1) cap)) w') : wpList Tryz.prog ops Q (o :: rest) a w := by
  obtain ⟨g, cap, w', hrun, h1, h2, h3⟩ := run_append_req w B v qs o.type hown N q hc0 hc1 hc2 hc3 hq hqa hqs hlen hB
  refine wpList_plain hgd fun K hK => ?_
  unfold Oper.wp execOp
  simp only [ho, resolve, invoke, builtin, Sem.run_bind, Sem.run_pure, Result.andThen_ok, List.map_toArray, List.map_cons, List.map_nil, hs, hx, hrun]
  exact hK _ _ (h g cap w' h1 h2 h3)
/-- The same at one step of a drawn region. -/
theorem step_append_req {ops : Array Oper} {o : Oper} {a : Act} {w : World} {K : Act → World → Prop} {Q : Exit → Act → World → Prop} {E : Prop} (hgd : o.guard = none) (s x : Operand)
    (ho : o.op = .call { callee := .builtin .append, args := #[s, x], argTypes := #[27, 27] })
    (B : Nat) (v : Value) (qs : List Rv) (hs : a.eval s = v) (hown : RowsQ w B v qs)
    (N : Nat) (q : Rv) (hx : a.eval x = .slice (some ⟨N, 0, none⟩) 1 1) (hc0 : w.cell? ⟨N, 0, none⟩ = some (.string q.1.m)) (hc1 : w.cell? ⟨N, 1, none⟩ = some (.string q.1.p)) (hc2 : w.cell? ⟨N, 2, none⟩ = some q.2) (hc3 : w.cell? ⟨N, 3, none⟩ = some (.string q.1.b))
    (hq : RowsH w B q.2 q.1.hs) (hqa : ApartV q.2 v) (hqs : ∀ p ∈ qs, ApartV p.2 q.2) (hlen : qs.length + 1 ≤ 1000000000) (hB : B ≤ w.heap.size)
    (h : ∀ g cap w', RowsQ w' B (.slice (some ⟨g, 0, none⟩) (qs.length + 1) cap) (qs ++ [q]) → w.grownBy w' v.ownBlock → (v.ownBlock = some g ∨ g = w.heap.size) → K (a.put o.dst (.slice (some ⟨g, 0, none⟩) (qs.length + 1) cap)) w') :
    if Region.wanted o (yielded ops a.tmps) = true then Oper.wp Tryz.prog o a w K Q else E := by
  have hwt : Region.wanted o (yielded ops a.tmps) = true := by simp [Region.wanted, hgd]
  rw [if_pos hwt]
  obtain ⟨g, cap, w', hrun, h1, h2, h3⟩ := run_append_req w B v qs o.type hown N q hc0 hc1 hc2 hc3 hq hqa hqs hlen hB
  unfold Oper.wp execOp
  simp only [ho, resolve, invoke, builtin, Sem.run_bind, Sem.run_pure, Result.andThen_ok, List.map_toArray, List.map_cons, List.map_nil, hs, hx, hrun]
  exact h g cap w' h1 h2 h3

/-- What a slice of requests holds, in blocks below B. -/
def Rqs (w : World) (B : Nat) (a : Option Addr) (rs : List Rq) : Prop :=
  0 < rs.length → ∃ b o, a = some ⟨b, o, none⟩ ∧ b < B ∧ ∀ j (hj : j < rs.length), ∃ aj cj, w.cell? ⟨b, o + j * 4, none⟩ = some (.string rs[j].m) ∧ w.cell? ⟨b, o + j * 4 + 1, none⟩ = some (.string rs[j].p) ∧ w.cell? ⟨b, o + j * 4 + 2, none⟩ = some (.slice aj rs[j].hs.length cj) ∧ w.cell? ⟨b, o + j * 4 + 3, none⟩ = some (.string rs[j].b) ∧ Hds w B aj rs[j].hs
theorem Rqs.below {w w' : World} {B C : Nat} {a : Option Addr} {rs : List Rq} (h : Rqs w B a rs) (hb : Below C w w') (hB : B ≤ C) : Rqs w' B a rs := fun h0 => by
  obtain ⟨b, o, e, hbB, hc⟩ := h h0
  refine ⟨b, o, e, hbB, fun j hj => ?_⟩
  obtain ⟨aj, cj, h1, h2, h3, h4, h5⟩ := hc j hj
  have k := fun i => hb.cell (p := ⟨b, i, none⟩) (Nat.lt_of_lt_of_le hbB hB)
  exact ⟨aj, cj, (k _).trans h1, (k _).trans h2, (k _).trans h3, (k _).trans h4, h5.below hb hB⟩
theorem Rqs.mono {w : World} {B C : Nat} {a : Option Addr} {rs : List Rq} (h : Rqs w B a rs) (hB : B ≤ C) : Rqs w C a rs := fun h0 => by
  obtain ⟨b, o, e, hbB, hc⟩ := h h0
  refine ⟨b, o, e, Nat.lt_of_lt_of_le hbB hB, fun j hj => ?_⟩
  obtain ⟨aj, cj, h1, h2, h3, h4, h5⟩ := hc j hj
  exact ⟨aj, cj, h1, h2, h3, h4, h5.mono hB⟩
theorem Rqs.next {w w' : World} {a : Option Addr} {rs : List Rq} (h : Rqs w w.heap.size a rs) (hb : Below w.heap.size w w') : Rqs w' w'.heap.size a rs := (h.below hb (Nat.le_refl _)).mono hb.size
/-- A row of requests as a slice that is read. -/
theorem RowsQ.rqs {w : World} {B : Nat} {v : Value} {qs : List Rv} (h : RowsQ w B v qs) : ∃ a c, v = .slice a qs.length c ∧ Rqs w w.heap.size a (qs.map Prod.fst) := by
  rcases h.own.2 with ⟨e, h0⟩ | ⟨g, cap, cur, e, hB, hh, h1, h2, h3, h4⟩
  · have : qs = [] := List.length_eq_zero_iff.1 h0
    subst this
    exact ⟨none, 0, e, fun h => absurd h (Nat.lt_irrefl _)⟩
  · subst e
    refine ⟨_, _, rfl, fun _ => ⟨g, 0, rfl, (Array.getElem?_eq_some_iff.1 hh).1, fun j hj => ?_⟩⟩
    rw [List.length_map] at hj
    have hx := rvCells_at qs j hj
    have hl := rvCells_length qs
    obtain ⟨aj, cj, hv, hd⟩ := RowsH.hds (h.heads qs[j] (List.getElem_mem hj))
    have hown : w.ownsRow B 47 4 (.slice (some ⟨g, 0, none⟩) qs.length cap) qs.length (rvCells qs) := h.own
    rw [Nat.zero_add, List.getElem_map]
    refine ⟨aj, cj, ?_, ?_, ?_, ?_, hd⟩
    · rw [hown.cellAt (j * 4) (by omega)]; exact hx.1
    · rw [hown.cellAt (j * 4 + 1) (by omega)]; exact hx.2.1
    · rw [hown.cellAt (j * 4 + 2) (by omega), hx.2.2.1, hv]
    · rw [hown.cellAt (j * 4 + 3) (by omega)]; exact hx.2.2.2
end Go.Proofs.YtkhnkockdfmkgabGreatDoor
namespace Go.Proofs.YtkhnkockdfmkgabGreatDoor
open Go.RowKit
set_option linter.unusedVariables false

/-- A row of cells in block g, none of them frozen. -/
def RowC (w : World) (g n : Nat) : Prop := g < w.heap.size ∧ ∀ j, j < n → (∃ v, w.cell? ⟨g, j, none⟩ = some v) ∧ w.frozen? ⟨g, j, none⟩ = false
theorem RowC.of {w w' : World} {g n : Nat} (h : RowC w g n) (hs' : w.heap.size ≤ w'.heap.size) (hb : w'.heap[g]? = w.heap[g]?) : RowC w' g n := by
  have hc : ∀ o, w'.cell? ⟨g, o, none⟩ = w.cell? ⟨g, o, none⟩ := fun o => World.cell?_of_block (a := ⟨g, o, none⟩) hb
  have hf : ∀ o, w'.frozen? ⟨g, o, none⟩ = w.frozen? ⟨g, o, none⟩ := fun o => World.frozen?_of_block (a := ⟨g, o, none⟩) hb
  exact ⟨Nat.lt_of_lt_of_le h.1 hs', fun j hj => by rw [hc, hf]; exact h.2 j hj⟩
theorem RowC.set {w : World} {g n : Nat} (h : RowC w g n) (o : Nat) (v : Value) : RowC (w.setCell ⟨g, o, none⟩ v) g n := ⟨by simpa using h.1, fun j hj => by
  obtain ⟨⟨u, hu⟩, hf⟩ := h.2 j hj
  refine ⟨?_, by rw [World.frozen?_setCell]; exact hf⟩
  by_cases e : o = j
  · subst e; exact ⟨v, World.cell?_setCell_same _ _ _ hu⟩
  · exact ⟨u, (World.cell?_setCell_other _ _ _ _ (fun e' => e (congrArg Addr.off e'))).trans hu⟩⟩
theorem grownG_refl (w : World) (g : Nat) : w.grownBy w (some g) := ⟨rfl, rfl, rfl, Nat.le_refl _, fun _ _ _ => rfl⟩
theorem grownG_next {w w1 w2 : World} {g : Nat} (h : w.grownBy w1 (some g)) (hb : Below w1.heap.size w1 w2) : w.grownBy w2 (some g) :=
  ⟨hb.os.trans h.os, hb.tape.trans h.tape, hb.output.trans h.output, Nat.le_trans h.size hb.size, fun k hk hne => (hb.block k (Nat.lt_of_lt_of_le hk h.size)).trans (h.block k hk hne)⟩
theorem grownG_set {w w1 : World} {g : Nat} (h : w.grownBy w1 (some g)) (o : Nat) (v : Value) : w.grownBy (w1.setCell ⟨g, o, none⟩ v) (some g) :=
  ⟨h.os, h.tape, h.output, by simpa using h.size, fun k hk hne => (heap_setCell_other w1 ⟨g, o, none⟩ k v (fun e => hne (by rw [e]))).trans (h.block k hk hne)⟩
/-- What was turned of what was there lies in the blocks from lo on, below hi. -/
structure Within (lo hi : Nat) (w w' : World) : Prop where
  os : w'.os = w.os
  tape : w'.tape = w.tape
  output : w'.output = w.output
  size : w.heap.size ≤ w'.heap.size
  block : ∀ k, k < w.heap.size → (k < lo ∨ hi ≤ k) → w'.heap[k]? = w.heap[k]?
theorem Within.refl (lo hi : Nat) (w : World) : Within lo hi w w := ⟨rfl, rfl, rfl, Nat.le_refl _, fun _ _ _ => rfl⟩
theorem Within.trans {lo hi : Nat} {a b c : World} (h : Within lo hi a b) (k : Within lo hi b c) : Within lo hi a c :=
  ⟨k.os.trans h.os, k.tape.trans h.tape, k.output.trans h.output, Nat.le_trans h.size k.size, fun i hi hk => (k.block i (Nat.lt_of_lt_of_le hi h.size) hk).trans (h.block i hi hk)⟩
theorem Within.below {lo hi : Nat} {w w' : World} (h : Within lo hi w w') (hz : lo ≤ w.heap.size) : Below lo w w' :=
  ⟨h.os, h.tape, h.output, h.size, fun k hk => h.block k (by omega) (.inl hk)⟩
theorem Within.of_grown {lo hi g : Nat} {w w' : World} (h : w.grownBy w' (some g)) (h1 : lo ≤ g) (h2 : g < hi) : Within lo hi w w' :=
  ⟨h.os, h.tape, h.output, h.size, fun k hk hd => h.block k hk (fun e => by have := Option.some.inj e; omega)⟩
theorem Within.of_below {lo hi : Nat} {w w' : World} (h : Below w.heap.size w w') : Within lo hi w w' :=
  ⟨h.os, h.tape, h.output, h.size, fun k hk _ => h.block k hk⟩

theorem RowC.setAny {w : World} {g n : Nat} (h : RowC w g n) (g' o : Nat) (v : Value) : RowC (w.setCell ⟨g', o, none⟩ v) g n := by
  by_cases e : g = g'
  · subst e; exact h.set o v
  · exact h.of (by simp [World.setCell]) (Below.heap_setCell _ _ _ _ e)
end Go.Proofs.YtkhnkockdfmkgabGreatDoor
namespace Go.Proofs.YtkhnkockdfmkgabGreatDoor
open Go.RowKit
set_option linter.unusedVariables false

def sameY (l m : List UInt8) : Bool := decide (l = m)
theorem sameY_refl (l : List UInt8) : sameY l l = true := by simp [sameY]
theorem sameY_len {l m : List UInt8} (h : ¬ l.length = m.length) : sameY l m = false := by
  simp only [sameY, decide_eq_false_iff_not]; intro e; exact h (by rw [e])
theorem sameY_not {l m : List UInt8} (k : Nat) (h1 : k < l.length) (h2 : k < m.length) (h : ¬ l[k] = m[k]) : sameY l m = false := by
  simp only [sameY, decide_eq_false_iff_not]; intro e; subst e; exact h rfl
theorem sameY_all {l m : List UInt8} (hl : l.length = m.length) (k : Nat) (hk : ¬ k < l.length) (h : l.take k = m.take k) : sameY l m = true := by
  rw [List.take_of_length_le (by omega), List.take_of_length_le (by omega)] at h
  simp [sameY, h]
theorem take_sameY {l m : List UInt8} (k : Nat) (h1 : k < l.length) (h2 : k < m.length) (h0 : l.take k = m.take k) (h : l[k] = m[k]) : l.take (k + 1) = m.take (k + 1) := by
  rw [List.take_succ_eq_append_getElem h1, List.take_succ_eq_append_getElem h2, h0, h]

set_option maxHeartbeats 400000 in
theorem eqByteS_any (a b : Option Addr) (l m : List UInt8) (cap cap' B C : Nat) (w : World) (h : Byt w B a l) (h' : Byt w C b m) (hl : l.length ≤ maxLen) (hl' : m.length ≤ maxLen) :
    Calls Tryz.prog 12 #[.slice a l.length cap, .slice b m.length cap'] w fun e w' => e = .returned (.bool (sameY l m)) ∧ ∀ D, Below D w w' := by
  unfold maxLen at hl hl'
  by_cases hlen : l.length = m.length
  · have HL : Hid (l.length = m.length) := hlen
    go_enter Tryz.func12, Tryz.ntmps12
    rw [← hlen]
    clear hlen
    go_wp2
    go_loopw [5] (fun i wr => ∃ k n : Nat, k ≤ l.length ∧ i = .int .i64 k ∧ l.take k = m.take k ∧ wr = w.drewN n) (fun i _ => l.length - (intOf i).toNat)
    case atStart => exact ⟨0, 0, Nat.zero_le _, rfl, rfl, rfl⟩
    case round =>
      obtain ⟨k, n, hk, rfl, ht, rfl⟩ := hrel
      have HT : Hid (l.take k = m.take k) := ht
      clear ht
      by_cases hlt : k < l.length
      · have hlt' : k < m.length := by have := HL.out; omega
        obtain ⟨b1, o1, rfl, hb1, hc1⟩ := h (by omega)
        obtain ⟨b2, o2, rfl, hb2, hc2⟩ := h' (by have := HL.out; omega)
        have hcx := hc1 k hlt
        have hcy := hc2 k hlt'
        by_cases he : l[k] = m[k]
        · have e1 : (((l[k]).toNat : Int) != (m[k]).toNat) = false := by rw [he]; simp
          have HE : Hid (l[k] = m[k]) := he
          clear he
          go_wp2
          go_quiet (fail)
          go_wp2
          go_roundw
          case rel => exact ⟨k + 1, n + nq, by omega, by go_num, take_sameY k hlt hlt' HT.out HE.out, rfl⟩
          case measure => simp [intOf]; omega
        · have e1 : (((l[k]).toNat : Int) != (m[k]).toNat) = true := by
            rw [bne_iff_ne]; intro e; exact he (UInt8.toNat_inj.1 (by omega))
          have HE : Hid (sameY l m = false) := sameY_not k hlt hlt' he
          clear he
          go_wp2
          go_quiet (fail)
          go_wp2
          go_ret
          exact ⟨ret_bool HE.out.symm, fun D => below_drewN (below_drewN (Below.refl _ _) _) _⟩
      · go_wp2
        go_ret
        exact ⟨ret_bool (sameY_all HL.out k hlt HT.out).symm, fun D => below_drewN (Below.refl _ _) _⟩
  · have HS := sameY_len hlen
    go_enter Tryz.func12, Tryz.ntmps12
    go_wp2
    go_ret
    exact ⟨ret_bool HS.symm, fun D => Below.refl _ _⟩
end Go.Proofs.YtkhnkockdfmkgabGreatDoor
namespace Go.Proofs.YtkhnkockdfmkgabGreatDoor
open Go.RowKit M
set_option linter.unusedVariables false

theorem OwnY.row {w : World} {B : Nat} {v : Value} {l : List UInt8} (h : OwnY w B v l) : ∃ g c, v = .slice (some ⟨g, 0, none⟩) l.length c ∧ B ≤ g ∧ RowC w g l.length := by
  obtain ⟨g, cap, cur, fz, hv, hB, hg, hfz, h1, h2, h3, h4⟩ := h
  refine ⟨g, cap, hv, hB, (Array.getElem?_eq_some_iff.1 hg).1, fun j hj => ⟨⟨cur[j]'(by omega), by simp [World.cell?, hg, show j < cur.size by omega]⟩, ?_⟩⟩
  obtain ⟨lo, hi⟩ := fz
  simp only [World.frozen?, hg, Bool.and_eq_false_iff, decide_eq_false_iff_not]
  simp only at hfz
  omega

def bm (j : Nat) : Int := ((j + 1) % 256 : Nat)
/-- The row in block g holds n marks. -/
def Bms (w : World) (g n : Nat) : Prop := g < w.heap.size ∧ ∀ j, j < n → w.cell? ⟨g, j, none⟩ = some (.int .u8 (bm j))
theorem Bms.of {w w' : World} {g n : Nat} (h : Bms w g n) (hs : w.heap.size ≤ w'.heap.size) (hb : w'.heap[g]? = w.heap[g]?) : Bms w' g n := ⟨Nat.lt_of_lt_of_le h.1 hs, fun j hj => (World.cell?_of_block (a := ⟨g, j, none⟩) hb).trans (h.2 j hj)⟩
theorem Bms.next {w w' : World} {g n : Nat} (h : Bms w g n) (hb : Below w.heap.size w w') : Bms w' g n := h.of hb.size (hb.block g h.1)
theorem Bms.snoc {w : World} {g n k : Nat} (h : Bms w g k) (hr : RowC w g n) (hk : k < n) : Bms (w.setCell ⟨g, k, none⟩ (.int .u8 (bm k))) g (k + 1) := ⟨by simpa using h.1, fun j hj => by
  by_cases e : k = j
  · subst e
    obtain ⟨⟨u, hu⟩, _⟩ := hr.2 k hk
    exact World.cell?_setCell_same _ _ _ hu
  · exact (World.cell?_setCell_other _ _ _ _ (fun e' => e (congrArg Addr.off e'))).trans (h.2 j (by omega))⟩

theorem wrap_bm (j : Nat) : IntKind.wrap .u8 ((j : Int) + 1) = bm j := by
  unfold bm
  simp [IntKind.wrap, IntKind.bits, IntKind.signed]

set_option maxHeartbeats 1000000 in
theorem markByteS_any (g n cap : Nat) (w : World) (h : RowC w g n) (hn : n ≤ 1073741824) :
    Calls Tryz.prog 14 #[.slice (some ⟨g, 0, none⟩) n cap, .int .i64 1] w fun e w' => e = .returned (.int .i64 (1 + (n : Int))) ∧ w.grownBy w' (some g) ∧ Bms w' g n := by
  go_enter Tryz.func14, Tryz.ntmps14
  go_wp2
  go_loopw [1, 5] (fun kv i wr => ∃ j : Nat, j ≤ n ∧ i = .int .i64 j ∧ kv = .int .i64 ((j : Int) + 1) ∧ RowC wr g n ∧ w.grownBy wr (some g) ∧ Bms wr g j) (fun _ i _ => n - (intOf i).toNat)
  case atStart => exact ⟨0, Nat.zero_le _, rfl, rfl, h, grownG_refl _ _, h.1, fun j hj => absurd hj (Nat.not_lt_zero _)⟩
  case round =>
    obtain ⟨j, hj, rfl, rfl, hrow, hg, hm⟩ := hrel
    by_cases hlt : j < n
    · obtain ⟨⟨u0, k0⟩, f0⟩ := hrow.2 j hlt
      have HR := hide (hrow.set j (.int .u8 (bm j)))
      have HG := hide (grownG_set hg j (.int .u8 (bm j)))
      have HM := hide (hm.snoc hrow hlt)
      have hwr := wrap_bm j
      clear hrow hg hm
      go_wp2
      go_roundw
      case rel => exact ⟨j + 1, by omega, by go_num, by go_num, HR.out, HG.out, HM.out⟩
      case measure => simp [intOf]; omega
    · go_wp2
      go_ret
      have hjn : j = n := by omega
      subst hjn
      exact ⟨by rw [Int.add_comm]; rfl, hg, hm⟩
end Go.Proofs.YtkhnkockdfmkgabGreatDoor
namespace Go.Proofs.YtkhnkockdfmkgabGreatDoor
open Go.RowKit M
set_option linter.unusedVariables false

set_option maxHeartbeats 1000000 in
theorem heldByteS_any (g n cap : Nat) (w : World) (h : Bms w g n) (hn : n ≤ 1073741824) :
    Calls Tryz.prog 32 #[.slice (some ⟨g, 0, none⟩) n cap, .int .i64 1] w fun e w' => e = .returned (.int .i64 (1 + (n : Int))) ∧ ∀ D, Below D w w' := by
  go_enter Tryz.func32, Tryz.ntmps32
  go_wp2
  go_loopw [1, 5] (fun kv i wr => ∃ j m : Nat, j ≤ n ∧ i = .int .i64 j ∧ kv = .int .i64 ((j : Int) + 1) ∧ wr = w.drewN m) (fun _ i _ => n - (intOf i).toNat)
  case atStart => exact ⟨0, 0, Nat.zero_le _, rfl, rfl, rfl⟩
  case round =>
    obtain ⟨j, m, hj, rfl, rfl, rfl⟩ := hrel
    by_cases hlt : j < n
    · have hc := h.2 j hlt
      have hwr := wrap_bm j
      go_wp2
      go_roundw
      case rel => exact ⟨j + 1, m, by omega, by go_num, by go_num, rfl⟩
      case measure => simp [intOf]; omega
    · go_wp2
      go_ret
      have hjn : j = n := by omega
      subst hjn
      exact ⟨by rw [Int.add_comm]; rfl, fun D => below_drewN (Below.refl _ _) _⟩
end Go.Proofs.YtkhnkockdfmkgabGreatDoor
namespace Go.Proofs.YtkhnkockdfmkgabGreatDoor
open Go.RowKit
set_option linter.unusedVariables false

/-- The slice v holds the bytes l; where there are any, at the head of a block from B on, none of them frozen. -/
def FreshY (w : World) (B : Nat) (v : Value) (l : List UInt8) : Prop :=
  ∃ a c, v = .slice a l.length c ∧ l.length ≤ c ∧ c ≤ maxLen ∧ (0 < l.length → ∃ g, a = some ⟨g, 0, none⟩ ∧ B ≤ g ∧ RowC w g l.length) ∧ Byt w w.heap.size a l
theorem FreshY.nul (w : World) (B : Nat) : FreshY w B (.slice none 0 0) [] := ⟨_, 0, rfl, Nat.le_refl _, Nat.zero_le _, fun h => absurd h (Nat.lt_irrefl _), Byt.nil _ _ _⟩
theorem FreshY.empty (w : World) (B : Nat) (a : Option Addr) (c : Nat) (hc : c ≤ maxLen) : FreshY w B (.slice a 0 c) [] := ⟨_, c, rfl, Nat.zero_le _, hc, fun h => absurd h (Nat.lt_irrefl _), Byt.nil _ _ _⟩
theorem FreshY.next {w w' : World} {B : Nat} {v : Value} {l : List UInt8} (h : FreshY w B v l) (hb : Below w.heap.size w w') : FreshY w' B v l := by
  obtain ⟨a, c, rfl, h1, h2, h3, h4⟩ := h
  refine ⟨a, c, rfl, h1, h2, fun h0 => ?_, (h4.below hb (Nat.le_refl _)).mono hb.size⟩
  obtain ⟨g, e, hB, hr⟩ := h3 h0
  exact ⟨g, e, hB, hr.of hb.size (hb.block g hr.1)⟩
/-- What is turned elsewhere does not matter. -/
theorem FreshY.same {w w' : World} {B : Nat} {v : Value} {l : List UInt8} (h : FreshY w B v l) (hs : w.heap.size ≤ w'.heap.size) (hb : ∀ k, B ≤ k → k < w.heap.size → w'.heap[k]? = w.heap[k]?) : FreshY w' B v l := by
  obtain ⟨a, c, rfl, h1, h2, h3, h4⟩ := h
  refine ⟨a, c, rfl, h1, h2, fun h0 => ?_, fun h0 => ?_⟩
  · obtain ⟨g, e, hB, hr⟩ := h3 h0
    exact ⟨g, e, hB, hr.of hs (hb g hB hr.1)⟩
  · obtain ⟨g, e, hB, hr⟩ := h3 h0
    obtain ⟨b, o, e2, hbB, hc⟩ := h4 h0
    rw [e] at e2
    cases e2
    exact ⟨g, 0, e, Nat.lt_of_lt_of_le hbB hs, fun j hj => (World.cell?_of_block (a := ⟨g, 0 + j, none⟩) (hb g hB hr.1)).trans (hc j hj)⟩
theorem OwnY.fresh {w : World} {B : Nat} {v : Value} {l : List UInt8} (h : OwnY w B v l) : FreshY w B v l := by
  obtain ⟨g, c, rfl, hB, _, h1, h2, h3⟩ := h.byt
  refine ⟨_, c, rfl, h1, h2, fun _ => ?_, h3⟩
  obtain ⟨g', c', e, hB', hr⟩ := h.row
  cases e
  exact ⟨g, rfl, hB, hr⟩

/-- The bytes of this slice are marked, from 1 on. -/
def MarkedY (w : World) (v : Value) (n : Nat) : Prop := ∃ a c, v = .slice a n c ∧ (0 < n → ∃ g, a = some ⟨g, 0, none⟩ ∧ Bms w g n)
theorem MarkedY.next {w w' : World} {v : Value} {n : Nat} (h : MarkedY w v n) (hb : Below w.heap.size w w') : MarkedY w' v n := by
  obtain ⟨a, c, rfl, h1⟩ := h
  refine ⟨a, c, rfl, fun h0 => ?_⟩
  obtain ⟨g, e, hm⟩ := h1 h0
  exact ⟨g, e, hm.next hb⟩
theorem MarkedY.of {w w' : World} {v : Value} {n : Nat} (h : MarkedY w v n) (hs : w.heap.size ≤ w'.heap.size) (hb : ∀ g, v.ownBlock = some g → 0 < n → w'.heap[g]? = w.heap[g]?) : MarkedY w' v n := by
  obtain ⟨a, c, rfl, h1⟩ := h
  refine ⟨a, c, rfl, fun h0 => ?_⟩
  obtain ⟨g, rfl, hm⟩ := h1 h0
  exact ⟨g, rfl, hm.of hs (hb g rfl h0)⟩

set_option maxHeartbeats 400000 in
theorem markByteS_empty (a : Option Addr) (cap : Nat) (k : Int) (w : World) :
    Calls Tryz.prog 14 #[.slice a 0 cap, .int .i64 k] w fun e w' => e = .returned (.int .i64 k) ∧ w' = w := by
  go_enter Tryz.func14, Tryz.ntmps14
  go_wp2
  go_loopw [1, 5] (fun kv i wr => i = .int .i64 0 ∧ kv = .int .i64 k ∧ wr = w) (fun _ i _ => 0)
  case atStart => exact ⟨rfl, rfl, rfl⟩
  case round =>
    obtain ⟨rfl, rfl, rfl⟩ := hrel
    go_wp2
    go_ret
    exact ⟨rfl, rfl⟩
set_option maxHeartbeats 400000 in
theorem heldByteS_empty (a : Option Addr) (cap : Nat) (k : Int) (w : World) :
    Calls Tryz.prog 32 #[.slice a 0 cap, .int .i64 k] w fun e w' => e = .returned (.int .i64 k) ∧ w' = w := by
  go_enter Tryz.func32, Tryz.ntmps32
  go_wp2
  go_loopw [1, 5] (fun kv i wr => i = .int .i64 0 ∧ kv = .int .i64 k ∧ wr = w) (fun _ i _ => 0)
  case atStart => exact ⟨rfl, rfl, rfl⟩
  case round =>
    obtain ⟨rfl, rfl, rfl⟩ := hrel
    go_wp2
    go_ret
    exact ⟨rfl, rfl⟩
theorem markY (w : World) (B : Nat) (v : Value) (l : List UInt8) (h : FreshY w B v l) (hB : B ≤ w.heap.size) (hl : l.length ≤ 1073741824) :
    Calls Tryz.prog 14 #[v, .int .i64 1] w fun e w' => e = .returned (.int .i64 (1 + (l.length : Int))) ∧ MarkedY w' v l.length ∧ Below B w w' ∧ (∀ k, k < w.heap.size → (0 < l.length → some k ≠ v.ownBlock) → w'.heap[k]? = w.heap[k]?) := by
  obtain ⟨a, c, rfl, h1, h2, h3, h4⟩ := h
  by_cases h0 : 0 < l.length
  · obtain ⟨g, rfl, hg, hr⟩ := h3 h0
    refine (markByteS_any g l.length c w hr hl).mono ?_
    rintro e w' ⟨rfl, hgr, hm⟩
    exact ⟨rfl, ⟨_, c, rfl, fun _ => ⟨g, rfl, hm⟩⟩, ⟨hgr.os, hgr.tape, hgr.output, hgr.size, fun k hk => hgr.block k (by omega) (fun e => by have := Option.some.inj e; omega)⟩, fun k hk hne => hgr.block k hk (hne h0)⟩
  · have e0 : l.length = 0 := by omega
    rw [e0]
    refine (markByteS_empty a c 1 w).mono ?_
    rintro e w' ⟨rfl, rfl⟩
    exact ⟨rfl, ⟨a, c, rfl, fun h => absurd h (Nat.lt_irrefl _)⟩, Below.refl _ _, fun _ _ _ => rfl⟩
theorem heldY (w : World) (v : Value) (n : Nat) (h : MarkedY w v n) (hn : n ≤ 1073741824) :
    Calls Tryz.prog 32 #[v, .int .i64 1] w fun e w' => e = .returned (.int .i64 (1 + (n : Int))) ∧ ∀ D, Below D w w' := by
  obtain ⟨a, c, rfl, h1⟩ := h
  by_cases h0 : 0 < n
  · obtain ⟨g, rfl, hm⟩ := h1 h0
    exact heldByteS_any g n c w hm hn
  · have e0 : n = 0 := by omega
    subst e0
    refine (heldByteS_empty a c 1 w).mono ?_
    rintro e w' ⟨rfl, rfl⟩
    exact ⟨rfl, fun D => Below.refl _ _⟩
end Go.Proofs.YtkhnkockdfmkgabGreatDoor
namespace Go.Proofs.YtkhnkockdfmkgabGreatDoor
open Go.RowKit M
set_option linter.unusedVariables false

theorem wp_append_O {w : World} {ops : Array Oper} {rest : List Oper} {o : Oper} {a : Act} {Q : Exit → Act → World → Prop} (hgd : o.guard = none) (sl x : Operand)
    (ho : o.op = .call { callee := .builtin .append, args := #[sl, x], argTypes := #[22, 22] })
    (B : Nat) (v : Value) (l : List UInt8) (hs : a.eval sl = v) (hown : OwnO w B v l) (am : Option Addr) (m : List UInt8) (c C : Nat) (hx : a.eval x = .slice am m.length c) (hy : Byt w C am m) (hlen : l.length + m.length ≤ 1099511627776) (hB : B ≤ w.heap.size)
    (h : ∀ v' w', OwnO w' B v' (l ++ m) → w.grownBy w' v.ownBlock → (v'.ownBlock = v.ownBlock ∨ v'.ownBlock = some w.heap.size) → wpList Tryz.prog ops Q rest (a.put o.dst v') w') : wpList Tryz.prog ops Q (o :: rest) a w := by
  refine wpList_plain hgd fun K hK => ?_
  obtain ⟨v', w', hr, h2, h3, h4⟩ := run_append_O w B v l o.type hown am m c C hy hlen hB
  unfold Oper.wp execOp
  simp only [ho, resolve, invoke, builtin, Sem.run_bind, Sem.run_pure, Result.andThen_ok, List.map_toArray, List.map_cons, List.map_nil, hs, hx, hr]
  exact hK _ _ (h v' w' h2 h3 h4)

theorem RowsQ.of {w w' : World} {B : Nat} {v : Value} {qs : List Rv} (h : RowsQ w B v qs) (hb : ∀ g, (v.ownBlock = some g ∨ ∃ q ∈ qs, q.2.ownBlock = some g) → w'.heap[g]? = w.heap[g]?) : RowsQ w' B v qs := by
  refine ⟨⟨h.own.1, ?_⟩, fun q hq => ?_, h.apart, h.pair⟩
  · rcases h.own.2 with h | ⟨g, cap, cur, rfl, hB, hh, hr⟩
    · exact .inl h
    · exact .inr ⟨g, cap, cur, rfl, hB, (hb g (.inl rfl)).trans hh, hr⟩
  · have h1 := h.heads q hq
    refine ⟨h1.1, ?_⟩
    rcases h1.2 with h | ⟨g, cap, cur, e, hB, hh, hr⟩
    · exact .inl h
    · exact .inr ⟨g, cap, cur, e, hB, (hb g (.inr ⟨q, hq, by rw [e]; rfl⟩)).trans hh, hr⟩
theorem RowsQ.lt {w : World} {B : Nat} {v : Value} {qs : List Rv} (h : RowsQ w B v qs) : ∀ g, (v.ownBlock = some g ∨ ∃ q ∈ qs, q.2.ownBlock = some g) → B ≤ g ∧ g < w.heap.size := by
  rintro g (hg | ⟨q, hq, hg⟩)
  · exact World.ownsRow.lt h.own g hg
  · exact (h.heads q hq).lt g hg
/-- '[]Req{}'. -/
theorem RowsQ.bare {w : World} {B N : Nat} (h : w.heap[N]? = some (Obj.cells #[] 47)) (hB : B ≤ N) : RowsQ w B (.slice (some ⟨N, 0, none⟩) 0 0) [] :=
  ⟨⟨rfl, .inr ⟨N, 0, #[], rfl, hB, h, Nat.le_refl _, Nat.zero_le _, rfl, rfl⟩⟩, (fun q h => by cases h), (fun q h => by cases h), List.Pairwise.nil⟩

/-- None of it lies in the box. -/
structure SepN (N : Nat) (uv rv : Value) (qs : List Rv) : Prop where
  u : uv.ownBlock ≠ some N
  r : rv.ownBlock ≠ some N
  q : ∀ q ∈ qs, q.2.ownBlock ≠ some N
theorem SepN.row {N : Nat} {uv rv : Value} {qs : List Rv} (h : SepN N uv rv qs) : ∀ g, (rv.ownBlock = some g ∨ ∃ q ∈ qs, q.2.ownBlock = some g) → g ≠ N := by
  rintro g (hg | ⟨q, hq, hg⟩) rfl
  · exact h.r hg
  · exact h.q q hq hg
/-- An open wire: its box in block N; bytes that are not yet read; requests; all in memory of their own, from B on. -/
def WireSt (w : World) (N B : Nat) (l : List UInt8) (bad : Int) (rs : List Rq) : Prop :=
  ∃ uv rv qs, w.heap[N]? = some (Obj.cells #[uv, .int .i64 bad, rv] 68) ∧ OwnO w B uv l ∧ RowsQ w B rv qs ∧ qs.map Prod.fst = rs ∧ (∀ g, uv.ownBlock = some g → rv.ownBlock ≠ some g ∧ ∀ q ∈ qs, q.2.ownBlock ≠ some g) ∧ SepN N uv rv qs
theorem WireSt.next {w w' : World} {N B : Nat} {l : List UInt8} {bad : Int} {rs : List Rq} (h : WireSt w N B l bad rs) (hb : Below w.heap.size w w') : WireSt w' N B l bad rs := by
  obtain ⟨uv, rv, qs, h1, h2, h3, h4, h5, h6⟩ := h
  exact ⟨uv, rv, qs, (hb.block N (Array.getElem?_eq_some_iff.1 h1).1).trans h1, h2.next hb, h3.next hb, h4, h5, h6⟩
theorem WireSt.lt {w : World} {N B : Nat} {l : List UInt8} {bad : Int} {rs : List Rq} (h : WireSt w N B l bad rs) : N < w.heap.size := by
  obtain ⟨uv, rv, qs, h1, _⟩ := h
  exact (Array.getElem?_eq_some_iff.1 h1).1
theorem box3 {W : World} {N : Nat} {v0 v1 v2 : Value} {t : TypeId} (h : W.heap[N]? = some (Obj.cells #[v0, v1, v2] t)) : W.cell? ⟨N, 0, none⟩ = some v0 ∧ W.cell? ⟨N, 1, none⟩ = some v1 ∧ W.cell? ⟨N, 2, none⟩ = some v2 ∧ W.frozen? ⟨N, 0, none⟩ = false ∧ W.frozen? ⟨N, 1, none⟩ = false ∧ W.frozen? ⟨N, 2, none⟩ = false := by
  refine ⟨?_, ?_, ?_, ?_, ?_, ?_⟩
  all_goals first | (unfold World.cell?; rw [h]; rfl) | (unfold World.frozen?; rw [h]; rfl)

set_option maxHeartbeats 1000000 in
theorem add_any (N B : Nat) (w : World) (l m : List UInt8) (bad : Int) (rs : List Rq) (a : Option Addr) (c C : Nat) (h : WireSt w N B l bad rs) (hBN : B ≤ N) (hy : Byt w C a m) (hs : l.length + m.length ≤ 4194304) :
    Calls Tryz.prog 37 #[.pointer (some ⟨N, 0, none⟩), .slice a m.length c] w fun e w' => (∃ v, e = .returned v) ∧ WireSt w' N B (l ++ m) bad rs ∧ Below B w w' := by
  obtain ⟨uv, rv, qs, h1, h2, h3, h4, h5, h6⟩ := h
  have hNlt : N < w.heap.size := (Array.getElem?_eq_some_iff.1 h1).1
  obtain ⟨x0, x1, x2, f0, f1, f2⟩ := box3 h1
  have hsl := h2.slice
  obtain ⟨au, cu, rfl, _⟩ := hsl
  have H1 := hide h1
  have H2 := hide h2
  have H3 := hide h3
  have H4 := hide h4
  have H5 := hide h5
  have H6 := hide h6
  have HY := hide hy
  clear h1 h2 h3 h4 h5 h6 hy x1 x2 f1 f2
  go_enter Tryz.func37, Tryz.ntmps37
  go_wp2_with (at_builtin; refine wp_append_O rfl _ _ rfl B _ l rfl H2.out a m c C rfl HY.out (by omega) (by omega) ?_)
  intro v' w1 o1 g1 hv
  have hN1 : w1.heap[N]? = w.heap[N]? := g1.block N hNlt (fun e => H6.out.u e.symm)
  have B1 := hN1.trans H1.out
  have hq : ∀ g, (rv.ownBlock = some g ∨ ∃ q ∈ qs, q.2.ownBlock = some g) → w1.heap[g]? = w.heap[g]? := fun g hg => g1.block g (H3.out.lt g hg).2 (fun e => by
    rcases hg with hg | ⟨q, hq, hg⟩
    · exact (H5.out g e.symm).1 hg
    · exact (H5.out g e.symm).2 q hq hg)
  have r1 := H3.out.of hq
  have ap : ∀ g, v'.ownBlock = some g → rv.ownBlock ≠ some g ∧ ∀ q ∈ qs, q.2.ownBlock ≠ some g := by
    intro g hg
    rcases hv with e | e
    · exact H5.out g (by rw [← e]; exact hg)
    · rw [hg] at e
      have hgz : g = w.heap.size := Option.some.inj e
      refine ⟨fun e2 => ?_, fun q hq e2 => ?_⟩
      · have := (H3.out.lt g (.inl e2)).2; omega
      · have := (H3.out.lt g (.inr ⟨q, hq, e2⟩)).2; omega
  have hlt1 := o1.lt
  have sp : SepN N v' rv qs := ⟨fun e => by
    rcases hv with e2 | e2
    · exact H6.out.u (by rw [← e2]; exact e)
    · have hz : N = w.heap.size := Option.some.inj (e.symm.trans e2)
      omega, H6.out.r, H6.out.q⟩
  have bw1 : Below B w w1 := ⟨g1.os, g1.tape, g1.output, g1.size, fun k hk => g1.block k (by omega) (fun e => by have := (H2.out.lt k e.symm).1; omega)⟩
  obtain ⟨a1, c1, rfl, _⟩ := o1.slice
  obtain ⟨y0, y1, y2, e0, e1, e2⟩ := box3 B1
  have HZ : Hid (WireSt (w1.setCell ⟨N, 0, none⟩ (.slice a1 (l ++ m).length c1)) N B (l ++ m) bad rs ∧ Below B w (w1.setCell ⟨N, 0, none⟩ (.slice a1 (l ++ m).length c1))) := by
    refine ⟨⟨_, rv, qs, set_heap B1 0 _, o1.of (fun g hg => Below.heap_setCell _ _ _ _ (fun e => sp.u (by rw [hg, show g = N from e]))), r1.of (fun g hg => Below.heap_setCell _ _ _ _ (sp.row g hg)), H4.out, ap, sp⟩, bw1.setCell hBN _⟩
  clear o1 g1 hv hN1 B1 hq r1 ap sp hlt1 bw1 H6 H1 H2 H3 H4 H5 HY x0 f0 y1 y2 e1 e2
  rw [List.length_append] at *
  go_wp2
  go_end0
  exact ⟨⟨_, rfl⟩, HZ.out⟩
end Go.Proofs.YtkhnkockdfmkgabGreatDoor
