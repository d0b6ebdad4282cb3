/-
  Rows of bytes that the call made, of a text or by appending: a text more behind; what they hold. (Such a row may bear a mark behind its last cell.)
  Bytes of another slice behind a row of bytes that the call made.
  Bytes of whatever slice behind a row of bytes that the call made, behind a part of one, and behind none.
  What GetReq does with no bytes, of a slice that is nil.
  Rows of cells that may be written.
  A row of bytes that the call made: its cells may be stored to.
  Bytes that the call made, or none.
  What an open wire does: bytes that come, requests that are read of them.
  What an open wire does: one request is taken of its bytes.
  Plain facts on what stands ahead of a body: where it ends, which lines it has: no program in sight.
  Lines of heads: no program in sight.
  Plain facts on the bytes of an answer: no program in sight.
-/
import Derived.Test.YtanebchmeaomgaaGreatDoorMathSmall
import Derived.Lib.AppendStr
import Derived.Lib.ConvBytes
import Derived.Lib.FrozenHead
import Derived.Test.YtanebchmeaomgaaGreatDoorMathGet
import Derived.Test.YtanebchmeaomgaaGreatDoorGetReq
import Derived.Test.YtanebchmeaomgaaGreatDoorSameReqI
import Derived.Deep.RegionHeld3
import Derived.Test.YtanebchmeaomgaaGreatDoorSpecReq
import Derived.Test.YtanebchmeaomgaaGreatDoorMathBack
namespace Go.Proofs.YtanebchmeaomgaaGreatDoor
open Go.RowKit
set_option linter.unusedVariables false

/-- Stores into a row that is frozen behind its end alone. -/
theorem storeCells_behind (P : Program) (g o : Nat) (t : TypeId) (fz : Nat × Nat) : ∀ (vs : List Value) (i : Nat) (cur : Array Value) (w : World), w.heap[g]? = some (.cells cur t fz) → (fz.2 = 0 ∨ cur.size ≤ fz.1) → o + i + vs.length ≤ cur.size → (∀ v ∈ vs, v.oneCell' = true) →
    (storeCells ⟨g, o, none⟩ vs i).run P w = .ok () (w.setRow g (cur.toList.take (o + i) ++ vs ++ cur.toList.drop (o + i + vs.length)).toArray) := by
  intro vs
  induction vs with
  | nil =>
    intro i cur w hg _ _ _
    simp only [storeCells, List.append_nil, List.length_nil, Nat.add_zero, List.take_append_drop, Array.toArray_toList]
    rw [setRow_self w g cur t fz hg]
    rfl
  | cons v rest ih =>
    intro i cur w hg hfz hl h1
    have hi : o + i < cur.size := by simp at hl; omega
    have hadd : (⟨g, o, none⟩ : Addr).add i = ⟨g, o + i, none⟩ := by unfold Addr.add; split <;> simp_all
    have hcell : w.cell? ⟨g, o + i, none⟩ = some cur[o + i] := by simp [World.cell?, hg, hi]
    have hfro : w.frozen? ⟨g, o + i, none⟩ = false := by
      obtain ⟨lo, hi'⟩ := fz
      simp only [World.frozen?, hg, Bool.and_eq_false_iff, decide_eq_false_iff_not]
      simp only at hfz
      omega
    have hst : (store ((⟨g, o, none⟩ : Addr).add i) v).run P w = .ok () (w.setRow g (cur.setIfInBounds (o + i) v)) := by
      rw [hadd, run_store P w _ v _ (h1 v (by simp)), hcell]
      simp [hfro, setCell_eq_setRow w g (o + i) cur t fz v hg]
    have ih2 := ih (i + 1) (cur.setIfInBounds (o + i) v) (w.setRow g (cur.setIfInBounds (o + i) v)) (setRow_heap w g cur _ t _ hg) (by simpa using hfz) (by simp at hl ⊢; omega) (fun x hx => h1 x (by simp [hx]))
    simp only [storeCells, Sem.run_bind, hst, Result.andThen_ok, ih2, setRow_setRow]
    congr 3
    have e := list_seg_step cur.toList (o + i) v rest (by simp at hl ⊢; omega)
    simpa [Array.toList_setIfInBounds, Nat.add_assoc] using e

/-- The slice v holds the bytes l, in a row of the call's own, from B on. -/
def OwnY (w : World) (B : Nat) (v : Value) (l : List UInt8) : Prop :=
  ∃ g cap cur fz, v = .slice (some ⟨g, 0, none⟩) l.length cap ∧ B ≤ g ∧ w.heap[g]? = some (.cells cur 5 fz) ∧ (fz.2 = 0 ∨ cur.size ≤ fz.1) ∧ l.length ≤ cap ∧ cap ≤ maxLen ∧ cur.size = cap ∧ cur.toList.take l.length = Lib.byteCells l

theorem OwnY.byt {w : World} {B : Nat} {v : Value} {l : List UInt8} (h : OwnY w B v l) : ∃ g c, v = .slice (some ⟨g, 0, none⟩) l.length c ∧ B ≤ g ∧ g < w.heap.size ∧ l.length ≤ c ∧ c ≤ maxLen ∧ Byt w w.heap.size (some ⟨g, 0, none⟩) l := by
  obtain ⟨g, cap, cur, fz, hv, hB, hg, _, h1, h2, h3, h4⟩ := h
  have hlt : g < w.heap.size := (Array.getElem?_eq_some_iff.1 hg).1
  refine ⟨g, cap, hv, hB, hlt, h1, h2, fun _ => ⟨g, 0, rfl, hlt, fun j hj => ?_⟩⟩
  rw [Nat.zero_add]
  have hx : cur.toList[j]? = some (.int .u8 l[j].toNat) := by
    have e : (cur.toList.take l.length)[j]? = cur.toList[j]? := by rw [List.getElem?_take, if_pos hj]
    rw [← e, h4]
    simp [Lib.byteCells, List.getElem?_eq_getElem hj]
  simp [World.cell?, hg]
  simpa using hx
theorem OwnY.next {w w' : World} {B : Nat} {v : Value} {l : List UInt8} (h : OwnY w B v l) (hb : Below w.heap.size w w') : OwnY w' B v l := by
  obtain ⟨g, cap, cur, fz, hv, hB, hg, hr⟩ := h
  exact ⟨g, cap, cur, fz, hv, hB, (hb.block g (Array.getElem?_eq_some_iff.1 hg).1).trans hg, hr⟩
theorem OwnY.base {w : World} {B C : Nat} {v : Value} {l : List UInt8} (h : OwnY w B v l) (hC : C ≤ B) : OwnY w C v l := by
  obtain ⟨g, cap, cur, fz, hv, hB, hr⟩ := h
  exact ⟨g, cap, cur, fz, hv, Nat.le_trans hC hB, hr⟩

theorem infoU8 : (Tryz.prog.info? 5).map (fun i => (i.zero, i.size, i.bytes)) = some (some (.int .u8 0), 1, 1) := by kernel_rfl

theorem strCells_byte (s : ByteArray) : Lib.strCells s = Lib.byteCells s.data.toList := rfl

/-- 'append(b, s...)' of a text. -/
theorem run_append_text (w : World) (B : Nat) (v : Value) (l : List UInt8) (ty : TypeId) (h : OwnY w B v l) (s : ByteArray) (hs : l.length + s.size ≤ 4398046511104) (hB : B ≤ w.heap.size) :
    ∃ v' w', (Builtin.append_ #[22, 9] ty #[v, .string s]).run Tryz.prog w = .ok v' w' ∧ OwnY w' B v' (l ++ s.data.toList) ∧ w.grownBy w' v.ownBlock ∧ (v'.ownBlock = v.ownBlock ∨ v'.ownBlock = some w.heap.size) := by
  obtain ⟨i0, hi, hz0, hz1, hz2⟩ := info_parts infoU8
  obtain ⟨g, cap, cur, fz, rfl, hBg, hg, hfz, hn, hcm, hcs, htake⟩ := h
  have hlen : (l ++ s.data.toList).length = l.length + s.size := by rw [List.length_append]; congr 1
  have hgl : g < w.heap.size := (Array.getElem?_eq_some_iff.1 hg).1
  by_cases hroom : l.length + s.size ≤ cap
  · have hf := Lib.run_firstCells_string (P := Tryz.prog) w 1 s
    have hst := storeCells_behind Tryz.prog g l.length 5 fz (Lib.strCells s) 0 cur w hg hfz (by rw [Lib.strCells_length]; omega) (Lib.strCells_oneCell s)
    simp only [Nat.add_zero, Lib.strCells_length] at hst
    refine ⟨.slice (some ⟨g, 0, none⟩) (l.length + s.size) cap, w.setRow g (cur.toList.take l.length ++ Lib.strCells s ++ cur.toList.drop (l.length + s.size)).toArray, ?_, ?_, ?_⟩
    · simp [Builtin.append_, run_underlying Tryz.underlying22, run_underlying Tryz.underlying9, sizeOf, typeInfo, hi, hz1, Builtin.lenOf, hroom, hf, Addr.add_lit, hst]
    · refine ⟨g, cap, _, fz, by rw [hlen], hBg, setRow_heap w g cur _ 5 _ hg, ?_, by omega, hcm, ?_, ?_⟩
      · rcases hfz with hfz | hfz
        · exact .inl hfz
        · right
          simp only [List.size_toArray, List.length_append, List.length_take, List.length_drop, Array.length_toList, Lib.strCells_length]
          omega
      · simp only [List.size_toArray, List.length_append, List.length_take, List.length_drop, Array.length_toList, Lib.strCells_length]
        omega
      · rw [htake, strCells_byte, Lib.byteCells_append]
        have : (l ++ s.data.toList).length = (Lib.byteCells l ++ Lib.byteCells s.data.toList).length := by rw [List.length_append, List.length_append, Lib.byteCells_length, Lib.byteCells_length]
        rw [this]
        exact List.take_left
    · exact ⟨⟨rfl, rfl, rfl, by simp, fun k _ hk => setRow_other w g k _ (fun e => hk (by simp [Value.ownBlock, e]))⟩, .inl rfl⟩
  · have holds : ∀ j u, (Lib.byteCells l)[j]? = some u → w.cell? ((⟨g, 0, none⟩ : Addr).add j) = some u := by
      intro j u hu
      have hadd : (⟨g, 0, none⟩ : Addr).add j = ⟨g, j, none⟩ := by unfold Addr.add; split <;> simp_all
      rw [hadd, ← htake] at *
      rw [List.getElem?_take] at hu
      split at hu
      · simp [World.cell?, hg]; simpa using hu
      · cases hu
    have hr := Lib.run_append_grow_string (P := Tryz.prog) w 22 9 ty 5 i0 (.int .u8 0) Tryz.underlying22 Tryz.underlying9 hi hz0 ⟨g, 0, none⟩ l.length cap (Lib.byteCells l) (by rw [hz1, Lib.byteCells_length, Nat.mul_one]) holds s (by omega) (by omega) (by rw [hz2]; exact growslice_fits (by omega) (by omega))
    have hge := grownCap_ge w (l.length + s.size) cap 5
    have hcm2 : grownCap w (l.length + s.size) cap 5 ≤ maxLen := grownCap_le_maxLen w (l.length + s.size) cap 5 (by unfold maxLen; omega)
    refine ⟨_, _, hr, ⟨w.heap.size, _, _, (0, 0), by rw [hlen], hB, heap_alloc_new w.drew _, .inl rfl, by omega, hcm2, ?_, ?_⟩, ⟨rfl, rfl, rfl, by simp, fun k hk _ => ((Below.refl w.drew.heap.size w.drew).alloc (Nat.le_refl _) _).block k (by show k < w.heap.size; omega)⟩, .inr rfl⟩
    · have hz1' : (Value.int IntKind.u8 0).cells.size = 1 := rfl
      simp only [Array.size_append, List.size_toArray, size_zeroCells, hz1', Lib.byteCells_length, Lib.strCells_length]
      omega
    · simp only [Array.toList_append, List.append_assoc]
      rw [← List.append_assoc, strCells_byte, ← Lib.byteCells_append]
      have : (l ++ s.data.toList).length = (Lib.byteCells (l ++ s.data.toList)).length := by rw [Lib.byteCells_length]
      rw [this]
      exact List.take_left

theorem wp_append_text {w : World} {ops : Array Oper} {rest : List Oper} {o : Oper} {a : Act} {Q : Exit → Act → World → Prop} (hgd : o.guard = none) (sl x : Operand)
    (ho : o.op = .call { callee := .builtin .append, args := #[sl, x], argTypes := #[22, 9] })
    (B : Nat) (v : Value) (l : List UInt8) (hs : a.eval sl = v) (hown : OwnY w B v l) (s : ByteArray) (hx : a.eval x = .string s) (hlen : l.length + s.size ≤ 4398046511104) (hB : B ≤ w.heap.size)
    (h : ∀ v' w', OwnY w' B v' (l ++ s.data.toList) → w.grownBy w' v.ownBlock → (v'.ownBlock = v.ownBlock ∨ v'.ownBlock = some w.heap.size) → wpList Tryz.prog ops Q rest (a.put o.dst v') w') : wpList Tryz.prog ops Q (o :: rest) a w := by
  refine wpList_plain hgd fun K hK => ?_
  obtain ⟨v', w', hr, h2, h3, h4⟩ := run_append_text w B v l o.type hown s hlen hB
  unfold Oper.wp execOp
  simp only [ho, resolve, invoke, builtin, Sem.run_bind, Sem.run_pure, Result.andThen_ok, List.map_toArray, List.map_cons, List.map_nil, hs, hx, hr]
  exact hK _ _ (h v' w' h2 h3 h4)

theorem OwnY.lt {w : World} {B : Nat} {v : Value} {l : List UInt8} (h : OwnY w B v l) : ∀ k, v.ownBlock = some k → B ≤ k ∧ k < w.heap.size := by
  obtain ⟨g, cap, cur, fz, rfl, hB, hg, _⟩ := h
  intro k hk
  simp [Value.ownBlock] at hk
  subst hk
  exact ⟨hB, (Array.getElem?_eq_some_iff.1 hg).1⟩
theorem OwnY.grown {w w' : World} {B : Nat} {v : Value} {l : List UInt8} (h : OwnY w B v l) (hB : B ≤ w.heap.size) (hg : w.grownBy w' v.ownBlock) : Below B w w' :=
  ⟨hg.os, hg.tape, hg.output, hg.size, fun k hk => hg.block k (Nat.lt_of_lt_of_le hk hB) (fun e => by have := h.lt k e.symm; omega)⟩

/-- '[]byte(s)'. -/
theorem OwnY.made (w : World) (s : ByteArray) (hs : s.size ≤ 4398046511104) : OwnY (Lib.bytesWorld w 5 s) w.heap.size (.slice (some ⟨w.heap.size, 0, none⟩) s.size (grownCap w s.size 0 5)) s.data.toList := by
  have hlen : s.data.toList.length = s.size := Array.length_toList
  refine ⟨w.heap.size, grownCap w s.size 0 5, Lib.bytesCells w 5 s, _, by rw [hlen], Nat.le_refl _, Lib.bytesWorld_at_new w 5 s, .inr (Nat.le_refl _), by rw [hlen]; exact grownCap_ge w s.size 0 5, grownCap_le_maxLen w s.size 0 5 (by unfold maxLen; omega), ?_, ?_⟩
  · have hge := grownCap_ge w s.size 0 5
    have : s.data.size = s.size := rfl
    simp only [Lib.bytesCells, Array.size_append, Array.size_map, Array.size_replicate]
    omega
  · have e : (Lib.bytesCells w 5 s).toList = Lib.byteCells s.data.toList ++ List.replicate (grownCap w s.size 0 5 - s.size) (.int .u8 0) := by
      simp [Lib.bytesCells, Lib.byteCells]
    rw [e]
    have : s.data.toList.length = (Lib.byteCells s.data.toList).length := by rw [Lib.byteCells_length]
    rw [this]
    exact List.take_left
/-- '[]byte{}'. -/
theorem OwnY.bare (w : World) : OwnY (w.alloc (Obj.cells #[] 5)) w.heap.size (.slice (some ⟨w.heap.size, 0, none⟩) 0 0) [] :=
  ⟨w.heap.size, 0, #[], (0, 0), rfl, Nat.le_refl _, heap_alloc_new w _, .inl rfl, Nat.le_refl _, Nat.zero_le _, rfl, rfl⟩

end Go.Proofs.YtanebchmeaomgaaGreatDoor
namespace Go.Proofs.YtanebchmeaomgaaGreatDoor
open Go.RowKit
set_option linter.unusedVariables false

theorem run_append_from (w : World) (B : Nat) (v : Value) (l : List UInt8) (ty : TypeId) (h : OwnY w B v l) (g0 o0 : Nat) (m : List UInt8) (c : Nat) (hm : ∀ j (hj : j < m.length), w.cell? ⟨g0, o0 + j, none⟩ = some (.int .u8 m[j].toNat)) (hs : l.length + m.length ≤ 4398046511104) (hB : B ≤ w.heap.size) :
    ∃ v' w', (Builtin.append_ #[22, 22] ty #[v, .slice (some ⟨g0, o0, none⟩) m.length c]).run Tryz.prog w = .ok v' w' ∧ OwnY w' B v' (l ++ m) ∧ w.grownBy w' v.ownBlock ∧ (v'.ownBlock = v.ownBlock ∨ v'.ownBlock = some w.heap.size) := by
  obtain ⟨i0, hi, hz0, hz1, hz2⟩ := info_parts infoU8
  obtain ⟨g, cap, cur, fz, rfl, hBg, hg, hfz, hn, hcm, hcs, htake⟩ := h
  have hlen : (l ++ m).length = l.length + m.length := List.length_append
  have hgl : g < w.heap.size := (Array.getElem?_eq_some_iff.1 hg).1
  have hnews : ∀ j u, (Lib.byteCells m)[j]? = some u → w.cell? ((⟨g0, o0, none⟩ : Addr).add j) = some u := by
    intro j u hu
    have hj : j < m.length := by
      have := (List.getElem?_eq_some_iff.1 hu).1
      rwa [Lib.byteCells_length] at this
    have hadd : (⟨g0, o0, none⟩ : Addr).add j = ⟨g0, o0 + j, none⟩ := by unfold Addr.add; split <;> simp_all
    rw [hadd, hm j hj]
    simp [Lib.byteCells, List.getElem?_eq_getElem hj] at hu
    rw [← hu]
  have hone : ∀ u ∈ Lib.byteCells m, u.oneCell' = true := by
    intro u hu
    simp only [Lib.byteCells, List.mem_map] at hu
    obtain ⟨c, _, rfl⟩ := hu
    rfl
  by_cases hroom : l.length + m.length ≤ cap
  · have hf := run_firstCells_some (P := Tryz.prog) w 1 m.length ⟨g0, o0, none⟩ m.length c (Lib.byteCells m) (by rw [Lib.byteCells_length]; omega) hnews
    have hst := storeCells_behind Tryz.prog g l.length 5 fz (Lib.byteCells m) 0 cur w hg hfz (by rw [Lib.byteCells_length]; omega) hone
    simp only [Nat.add_zero, Lib.byteCells_length] at hst
    refine ⟨.slice (some ⟨g, 0, none⟩) (l.length + m.length) cap, w.setRow g (cur.toList.take l.length ++ Lib.byteCells m ++ cur.toList.drop (l.length + m.length)).toArray, ?_, ?_, ?_⟩
    · simp [Builtin.append_, run_underlying Tryz.underlying22, sizeOf, typeInfo, hi, hz1, Builtin.lenOf, hroom, hf, Addr.add_lit, hst]
    · refine ⟨g, cap, _, fz, by rw [hlen], hBg, setRow_heap w g cur _ 5 _ hg, ?_, by omega, hcm, ?_, ?_⟩
      · rcases hfz with hfz | hfz
        · exact .inl hfz
        · right
          simp only [List.size_toArray, List.length_append, List.length_take, List.length_drop, Array.length_toList, Lib.byteCells_length]
          omega
      · simp only [List.size_toArray, List.length_append, List.length_take, List.length_drop, Array.length_toList, Lib.byteCells_length]
        omega
      · rw [htake, Lib.byteCells_append]
        have : (l ++ m).length = (Lib.byteCells l ++ Lib.byteCells m).length := by rw [List.length_append, List.length_append, Lib.byteCells_length, Lib.byteCells_length]
        rw [this]
        exact List.take_left
    · exact ⟨⟨rfl, rfl, rfl, by simp, fun k _ hk => setRow_other w g k _ (fun e => hk (by simp [Value.ownBlock, e]))⟩, .inl rfl⟩
  · have holds : ∀ j u, (Lib.byteCells l)[j]? = some u → w.cell? ((⟨g, 0, none⟩ : Addr).add j) = some u := by
      intro j u hu
      have hadd : (⟨g, 0, none⟩ : Addr).add j = ⟨g, j, none⟩ := by unfold Addr.add; split <;> simp_all
      rw [hadd, ← htake] at *
      rw [List.getElem?_take] at hu
      split at hu
      · simp [World.cell?, hg]; simpa using hu
      · cases hu
    have hr := run_append_grow (P := Tryz.prog) w 22 ty 5 i0 (.int .u8 0) Tryz.underlying22 hi hz0 ⟨g, 0, none⟩ l.length cap (Lib.byteCells l) (by rw [hz1, Lib.byteCells_length, Nat.mul_one]) holds ⟨g0, o0, none⟩ m.length c (Lib.byteCells m) (by rw [hz1, Lib.byteCells_length, Nat.mul_one]) hnews (by omega) (by omega) (by rw [hz2]; exact growslice_fits (by omega) (by omega))
    have hge := grownCap_ge w (l.length + m.length) cap 5
    have hcm2 : grownCap w (l.length + m.length) cap 5 ≤ maxLen := grownCap_le_maxLen w (l.length + m.length) cap 5 (by unfold maxLen; omega)
    refine ⟨_, _, hr, ⟨w.heap.size, _, _, (0, 0), by rw [hlen], hB, heap_alloc_new w.drew _, .inl rfl, by omega, hcm2, ?_, ?_⟩, ⟨rfl, rfl, rfl, by simp, fun k hk _ => ((Below.refl w.drew.heap.size w.drew).alloc (Nat.le_refl _) _).block k (by show k < w.heap.size; omega)⟩, .inr rfl⟩
    · have hz1' : (Value.int IntKind.u8 0).cells.size = 1 := rfl
      simp only [Array.size_append, List.size_toArray, size_zeroCells, hz1', Lib.byteCells_length]
      omega
    · simp only [Array.toList_append, List.append_assoc]
      rw [← List.append_assoc, ← Lib.byteCells_append]
      have : (l ++ m).length = (Lib.byteCells (l ++ m)).length := by rw [Lib.byteCells_length]
      rw [this]
      exact List.take_left

theorem run_append_byts (w : World) (B : Nat) (v : Value) (l : List UInt8) (ty : TypeId) (h : OwnY w B v l) (g0 : Nat) (m : List UInt8) (c : Nat) (hm : ∀ j (hj : j < m.length), w.cell? ⟨g0, j, none⟩ = some (.int .u8 m[j].toNat)) (hs : l.length + m.length ≤ 4398046511104) (hB : B ≤ w.heap.size) :
    ∃ v' w', (Builtin.append_ #[22, 22] ty #[v, .slice (some ⟨g0, 0, none⟩) m.length c]).run Tryz.prog w = .ok v' w' ∧ OwnY w' B v' (l ++ m) ∧ w.grownBy w' v.ownBlock ∧ (v'.ownBlock = v.ownBlock ∨ v'.ownBlock = some w.heap.size) :=
  run_append_from w B v l ty h g0 0 m c (fun j hj => by rw [Nat.zero_add]; exact hm j hj) hs hB

theorem wp_append_byts {w : World} {ops : Array Oper} {rest : List Oper} {o : Oper} {a : Act} {Q : Exit → Act → World → Prop} (hgd : o.guard = none) (sl x : Operand)
    (ho : o.op = .call { callee := .builtin .append, args := #[sl, x], argTypes := #[22, 22] })
    (B : Nat) (v : Value) (l : List UInt8) (hs : a.eval sl = v) (hown : OwnY w B v l) (g0 : Nat) (m : List UInt8) (c : Nat) (hx : a.eval x = .slice (some ⟨g0, 0, none⟩) m.length c) (hm : ∀ j (hj : j < m.length), w.cell? ⟨g0, j, none⟩ = some (.int .u8 m[j].toNat)) (hlen : l.length + m.length ≤ 4398046511104) (hB : B ≤ w.heap.size)
    (h : ∀ v' w', OwnY w' B v' (l ++ m) → w.grownBy w' v.ownBlock → (v'.ownBlock = v.ownBlock ∨ v'.ownBlock = some w.heap.size) → wpList Tryz.prog ops Q rest (a.put o.dst v') w') : wpList Tryz.prog ops Q (o :: rest) a w := by
  refine wpList_plain hgd fun K hK => ?_
  obtain ⟨v', w', hr, h2, h3, h4⟩ := run_append_byts w B v l o.type hown g0 m c hm hlen hB
  unfold Oper.wp execOp
  simp only [ho, resolve, invoke, builtin, Sem.run_bind, Sem.run_pure, Result.andThen_ok, List.map_toArray, List.map_cons, List.map_nil, hs, hx, hr]
  exact hK _ _ (h v' w' h2 h3 h4)
end Go.Proofs.YtanebchmeaomgaaGreatDoor
namespace Go.Proofs.YtanebchmeaomgaaGreatDoor
open Go.RowKit
set_option linter.unusedVariables false

theorem add_plainA (b o i : Nat) : (⟨b, o, none⟩ : Addr).add i = ⟨b, o + i, none⟩ := by unfold Addr.add; split <;> simp_all

theorem run_append_any (w : World) (B : Nat) (v : Value) (l : List UInt8) (ty : TypeId) (h : OwnY w B v l) (a : Option Addr) (m : List UInt8) (c C : Nat) (hy : Byt w C a m) (hs : l.length + m.length ≤ 4398046511104) (hB : B ≤ w.heap.size) :
    ∃ v' w', (Builtin.append_ #[22, 22] ty #[v, .slice a m.length c]).run Tryz.prog w = .ok v' w' ∧ OwnY w' B v' (l ++ m) ∧ w.grownBy w' v.ownBlock ∧ (v'.ownBlock = v.ownBlock ∨ v'.ownBlock = some w.heap.size) := by
  by_cases h0 : 0 < m.length
  · obtain ⟨b, o, rfl, _, hc⟩ := hy h0
    exact run_append_from w B v l ty h b o m c hc hs hB
  · have : m = [] := List.length_eq_zero_iff.1 (by omega)
    subst this
    refine ⟨v, w, ?_, by rw [List.append_nil]; exact h, ⟨rfl, rfl, rfl, Nat.le_refl _, fun _ _ _ => rfl⟩, .inl rfl⟩
    obtain ⟨g, cap, cur, fz, rfl, hBg, hg, hfz, hn, hcm, hcs, htake⟩ := h
    obtain ⟨i0, hi, hz0, hz1, hz2⟩ := info_parts infoU8
    cases a <;> simp [Builtin.append_, run_underlying Tryz.underlying22, sizeOf, typeInfo, hi, Builtin.lenOf, Builtin.firstCells, loadCells, loadCellsFrom, storeCells, hn]

theorem wp_append_any {w : World} {ops : Array Oper} {rest : List Oper} {o : Oper} {a : Act} {Q : Exit → Act → World → Prop} (hgd : o.guard = none) (sl x : Operand)
    (ho : o.op = .call { callee := .builtin .append, args := #[sl, x], argTypes := #[22, 22] })
    (B : Nat) (v : Value) (l : List UInt8) (hs : a.eval sl = v) (hown : OwnY w B v l) (am : Option Addr) (m : List UInt8) (c C : Nat) (hx : a.eval x = .slice am m.length c) (hy : Byt w C am m) (hlen : l.length + m.length ≤ 4398046511104) (hB : B ≤ w.heap.size)
    (h : ∀ v' w', OwnY w' B v' (l ++ m) → w.grownBy w' v.ownBlock → (v'.ownBlock = v.ownBlock ∨ v'.ownBlock = some w.heap.size) → wpList Tryz.prog ops Q rest (a.put o.dst v') w') : wpList Tryz.prog ops Q (o :: rest) a w := by
  refine wpList_plain hgd fun K hK => ?_
  obtain ⟨v', w', hr, h2, h3, h4⟩ := run_append_any w B v l o.type hown am m c C hy hlen hB
  unfold Oper.wp execOp
  simp only [ho, resolve, invoke, builtin, Sem.run_bind, Sem.run_pure, Result.andThen_ok, List.map_toArray, List.map_cons, List.map_nil, hs, hx, hr]
  exact hK _ _ (h v' w' h2 h3 h4)

/-- The slice v holds the bytes l: none at all, or a part of a row of the call's own, from B on, up to the row's end. -/
def OwnO (w : World) (B : Nat) (v : Value) (l : List UInt8) : Prop :=
  (v = .slice none 0 0 ∧ l = []) ∨ ∃ g o cap cur, v = .slice (some ⟨g, o, none⟩) l.length cap ∧ B ≤ g ∧ w.heap[g]? = some (.cells cur 5) ∧ l.length ≤ cap ∧ cap ≤ maxLen ∧ o + cap ≤ cur.size ∧ (cur.toList.drop o).take l.length = Lib.byteCells l
theorem OwnO.nil (w : World) (B : Nat) : OwnO w B (.slice none 0 0) [] := .inl ⟨rfl, rfl⟩
theorem OwnO.of {w w' : World} {B : Nat} {v : Value} {l : List UInt8} (h : OwnO w B v l) (hb : ∀ g, v.ownBlock = some g → w'.heap[g]? = w.heap[g]?) : OwnO w' B v l := by
  rcases h with h | ⟨g, o, cap, cur, rfl, hB, hg, hr⟩
  · exact .inl h
  · exact .inr ⟨g, o, cap, cur, rfl, hB, (hb g rfl).trans hg, hr⟩
theorem OwnO.lt {w : World} {B : Nat} {v : Value} {l : List UInt8} (h : OwnO w B v l) : ∀ g, v.ownBlock = some g → B ≤ g ∧ g < w.heap.size := by
  rcases h with ⟨rfl, _⟩ | ⟨g, o, cap, cur, rfl, hB, hg, hr⟩
  · intro g hg; cases hg
  · intro k hk
    have : g = k := Option.some.inj hk
    subst this
    exact ⟨hB, (Array.getElem?_eq_some_iff.1 hg).1⟩
theorem OwnO.next {w w' : World} {B : Nat} {v : Value} {l : List UInt8} (h : OwnO w B v l) (hb : Below w.heap.size w w') : OwnO w' B v l := h.of (fun g hg => hb.block g (h.lt g hg).2)
theorem OwnO.slice {w : World} {B : Nat} {v : Value} {l : List UInt8} (h : OwnO w B v l) : ∃ a c, v = .slice a l.length c ∧ l.length ≤ c ∧ c ≤ maxLen ∧ (a = none → l = [] ∧ c = 0) ∧ (∀ x, a = some x → x.spot = none) ∧ Byt w w.heap.size a l := by
  rcases h with ⟨rfl, rfl⟩ | ⟨g, o, cap, cur, rfl, hB, hg, h1, h2, h3, h4⟩
  · exact ⟨none, 0, rfl, Nat.le_refl _, Nat.zero_le _, fun _ => ⟨rfl, rfl⟩, (fun x e => by cases e), Byt.nil _ _ _⟩
  · refine ⟨some ⟨g, o, none⟩, cap, rfl, h1, h2, (fun e => by cases e), (fun x e => by have := Option.some.inj e; rw [← this]), fun _ => ⟨g, o, rfl, (Array.getElem?_eq_some_iff.1 hg).1, fun j hj => ?_⟩⟩
    have hx : cur.toList[o + j]? = some (.int .u8 l[j].toNat) := by
      have e : ((cur.toList.drop o).take l.length)[j]? = cur.toList[o + j]? := by rw [List.getElem?_take, if_pos hj, List.getElem?_drop]
      rw [← e, h4]
      simp [Lib.byteCells, List.getElem?_eq_getElem hj]
    simp [World.cell?, hg]
    simpa using hx
/-- What is left behind the first n bytes. -/
theorem OwnO.drop {w : World} {B g o c : Nat} {l : List UInt8} {n : Nat} (h : OwnO w B (.slice (some ⟨g, o, none⟩) l.length c) l) (hn : n ≤ l.length) : OwnO w B (.slice (if c = n then some ⟨g, o, none⟩ else some ⟨g, o + n, none⟩) (l.drop n).length (c - n)) (l.drop n) := by
  rcases h with ⟨h, _⟩ | ⟨g', o', cap, cur, e, hB, hg, h1, h2, h3, h4⟩
  · cases h
  · cases e
    by_cases hc : c = n
    · rw [if_pos hc]
      have e0 : l.drop n = [] := List.drop_eq_nil_of_le (by omega)
      rw [e0]
      exact .inr ⟨g, o, c - n, cur, rfl, hB, hg, Nat.zero_le _, by omega, by omega, rfl⟩
    · rw [if_neg hc]
      refine .inr ⟨g, o + n, c - n, cur, rfl, hB, hg, by rw [List.length_drop]; omega, by omega, by omega, ?_⟩
      rw [List.length_drop, ← List.drop_drop]
      have := congrArg (List.drop n) h4
      rw [List.drop_take] at this
      rw [this]
      simp [Lib.byteCells, List.map_drop]

theorem run_append_O (w : World) (B : Nat) (v : Value) (l : List UInt8) (ty : TypeId) (h : OwnO w B v l) (a : Option Addr) (m : List UInt8) (c C : Nat) (hy : Byt w C a m) (hs : l.length + m.length ≤ 1099511627776) (hB : B ≤ w.heap.size) :
    ∃ v' w', (Builtin.append_ #[22, 22] ty #[v, .slice a m.length c]).run Tryz.prog w = .ok v' w' ∧ OwnO w' B v' (l ++ m) ∧ w.grownBy w' v.ownBlock ∧ (v'.ownBlock = v.ownBlock ∨ v'.ownBlock = some w.heap.size) := by
  obtain ⟨i0, hi, hz0, hz1, hz2⟩ := info_parts infoU8
  by_cases h0 : 0 < m.length
  · obtain ⟨g0, o0, rfl, _, hm⟩ := hy h0
    have hlen : (l ++ m).length = l.length + m.length := List.length_append
    have hnews : ∀ j u, (Lib.byteCells m)[j]? = some u → w.cell? ((⟨g0, o0, none⟩ : Addr).add j) = some u := by
      intro j u hu
      have hj : j < m.length := by
        have := (List.getElem?_eq_some_iff.1 hu).1
        rwa [Lib.byteCells_length] at this
      rw [add_plainA, hm j hj]
      simp [Lib.byteCells, List.getElem?_eq_getElem hj] at hu
      rw [← hu]
    have hone : ∀ u ∈ Lib.byteCells m, u.oneCell' = true := by
      intro u hu
      simp only [Lib.byteCells, List.mem_map] at hu
      obtain ⟨c, _, rfl⟩ := hu
      rfl
    rcases h with ⟨rfl, rfl⟩ | ⟨g, o, cap, cur, rfl, hBg, hg, hn, hcm, hcs, htake⟩
    · have hr := run_append_nil (P := Tryz.prog) w 22 ty 5 i0 (.int .u8 0) Tryz.underlying22 hi hz0 ⟨g0, o0, none⟩ m.length c (Lib.byteCells m) (by rw [hz1, Lib.byteCells_length, Nat.mul_one]) hnews h0 (by simp at hs; omega) (by rw [hz2]; simp at hs; omega)
      have hge := grownCap_ge w m.length 0 5
      have hcm2 : grownCap w m.length 0 5 ≤ maxLen := grownCap_le_maxLen w m.length 0 5 (by unfold maxLen; simp at hs; omega)
      refine ⟨_, _, hr, .inr ⟨w.heap.size, 0, _, _, by rw [List.nil_append], hB, heap_alloc_new w.drew _, by rw [List.nil_append]; exact hge, hcm2, ?_, ?_⟩, ⟨rfl, rfl, rfl, by simp, fun k hk _ => ((Below.refl w.drew.heap.size w.drew).alloc (Nat.le_refl _) _).block k (by show k < w.heap.size; omega)⟩, .inr rfl⟩
      · have hz1' : (Value.int IntKind.u8 0).cells.size = 1 := rfl
        simp only [Array.size_append, List.size_toArray, size_zeroCells, hz1', Lib.byteCells_length]
        omega
      · simp only [Array.toList_append, List.drop_zero, List.nil_append]
        have : m.length = (Lib.byteCells m).length := by rw [Lib.byteCells_length]
        rw [this]
        exact List.take_left
    · have hgl : g < w.heap.size := (Array.getElem?_eq_some_iff.1 hg).1
      by_cases hroom : l.length + m.length ≤ cap
      · have hf := run_firstCells_some (P := Tryz.prog) w 1 m.length ⟨g0, o0, none⟩ m.length c (Lib.byteCells m) (by rw [Lib.byteCells_length]; omega) hnews
        have hst := storeCells_behind Tryz.prog g (o + l.length) 5 (0, 0) (Lib.byteCells m) 0 cur w hg (.inl rfl) (by rw [Lib.byteCells_length]; omega) hone
        simp only [Nat.add_zero, Lib.byteCells_length] at hst
        refine ⟨.slice (some ⟨g, o, none⟩) (l.length + m.length) cap, w.setRow g (cur.toList.take (o + l.length) ++ Lib.byteCells m ++ cur.toList.drop (o + l.length + m.length)).toArray, ?_, ?_, ?_⟩
        · simp [Builtin.append_, run_underlying Tryz.underlying22, sizeOf, typeInfo, hi, hz1, Builtin.lenOf, hroom, hf, add_plainA, hst]
        · refine .inr ⟨g, o, cap, _, by rw [hlen], hBg, setRow_heap w g cur _ 5 _ hg, by omega, hcm, ?_, ?_⟩
          · simp only [List.size_toArray, List.length_append, List.length_take, List.length_drop, Array.length_toList, Lib.byteCells_length]
            omega
          · have e1 : cur.toList.take (o + l.length) = cur.toList.take o ++ Lib.byteCells l := by rw [List.take_add, htake]
            have e2 : (cur.toList.take o).length = o := by rw [List.length_take, Array.length_toList]; omega
            rw [e1, List.append_assoc, List.append_assoc, List.drop_left' e2, ← List.append_assoc, ← Lib.byteCells_append]
            have : (l ++ m).length = (Lib.byteCells (l ++ m)).length := by rw [Lib.byteCells_length]
            rw [this]
            exact List.take_left
        · exact ⟨⟨rfl, rfl, rfl, by simp, fun k _ hk => setRow_other w g k _ (fun e => hk (by simp [Value.ownBlock, e]))⟩, .inl rfl⟩
      · have holds : ∀ j u, (Lib.byteCells l)[j]? = some u → w.cell? ((⟨g, o, none⟩ : Addr).add j) = some u := by
          intro j u hu
          rw [add_plainA, ← htake] at *
          rw [List.getElem?_take] at hu
          split at hu
          · rw [List.getElem?_drop] at hu
            simp [World.cell?, hg]; simpa using hu
          · cases hu
        have hr := run_append_grow (P := Tryz.prog) w 22 ty 5 i0 (.int .u8 0) Tryz.underlying22 hi hz0 ⟨g, o, none⟩ l.length cap (Lib.byteCells l) (by rw [hz1, Lib.byteCells_length, Nat.mul_one]) holds ⟨g0, o0, none⟩ m.length c (Lib.byteCells m) (by rw [hz1, Lib.byteCells_length, Nat.mul_one]) hnews (by omega) (by omega) (by rw [hz2]; exact growslice_fits (by omega) (by omega))
        have hge := grownCap_ge w (l.length + m.length) cap 5
        have hcm2 : grownCap w (l.length + m.length) cap 5 ≤ maxLen := grownCap_le_maxLen w (l.length + m.length) cap 5 (by unfold maxLen; omega)
        refine ⟨_, _, hr, .inr ⟨w.heap.size, 0, _, _, by rw [hlen], hB, heap_alloc_new w.drew _, by omega, hcm2, ?_, ?_⟩, ⟨rfl, rfl, rfl, by simp, fun k hk _ => ((Below.refl w.drew.heap.size w.drew).alloc (Nat.le_refl _) _).block k (by show k < w.heap.size; omega)⟩, .inr rfl⟩
        · have hz1' : (Value.int IntKind.u8 0).cells.size = 1 := rfl
          simp only [Array.size_append, List.size_toArray, size_zeroCells, hz1', Lib.byteCells_length]
          omega
        · simp only [Array.toList_append, List.append_assoc, List.drop_zero]
          rw [← List.append_assoc, ← Lib.byteCells_append]
          have : (l ++ m).length = (Lib.byteCells (l ++ m)).length := by rw [Lib.byteCells_length]
          rw [this]
          exact List.take_left
  · have : m = [] := List.length_eq_zero_iff.1 (by omega)
    subst this
    refine ⟨v, w, ?_, by rw [List.append_nil]; exact h, ⟨rfl, rfl, rfl, Nat.le_refl _, fun _ _ _ => rfl⟩, .inl rfl⟩
    rcases h with ⟨rfl, rfl⟩ | ⟨g, o, cap, cur, rfl, hBg, hg, hn, hcm, hcs, htake⟩
    · cases a <;> simp [Builtin.append_, run_underlying Tryz.underlying22, sizeOf, typeInfo, hi, Builtin.lenOf, Builtin.firstCells, loadCells, loadCellsFrom]
    · cases a <;> simp [Builtin.append_, run_underlying Tryz.underlying22, sizeOf, typeInfo, hi, Builtin.lenOf, Builtin.firstCells, loadCells, loadCellsFrom, storeCells, hn]
end Go.Proofs.YtanebchmeaomgaaGreatDoor
namespace Go.Proofs.YtanebchmeaomgaaGreatDoor
open Go.RowKit M
set_option linter.unusedVariables false

set_option maxRecDepth 100000 in
set_option maxHeartbeats 400000 in
theorem index_nil (w : World) (g : Nat) :
    Calls Tryz.prog 59 #[.slice none 0 0, .slice (some ⟨g, 0, none⟩) 4 4] w fun e w' => e = .returned (.int .i64 (-1)) ∧ w' = w := by
  go_enter Tryz.func59, Tryz.ntmps59
  go_wp2
  go_ret
  exact ⟨rfl, rfl⟩
set_option maxRecDepth 100000 in
set_option maxHeartbeats 400000 in
theorem headEnd_nil (w : World) :
    Calls Tryz.prog 22 #[.slice none 0 0] w fun e w' => e = .returned (.int .i64 (-1)) ∧ Below w.heap.size w w' := by
  have kc := fun (w : World) (C : Array Value) (n c : Nat) => Lib.run_convert_bytes_const w 22 5 C n c Tryz.underlying22 Tryz.underlying5
  go_enter Tryz.func22, Tryz.ntmps22
  go_wp2_with fail
  refine (index_nil _ _).mono ?_
  rintro e w1 ⟨rfl, hw⟩
  have b1 : Below w.heap.size w w1 := by rw [hw]; exact (Below.refl _ _).alloc (Nat.le_refl _) _
  clear hw
  go_wp2
  go_ret
  exact ⟨rfl, b1⟩
set_option maxRecDepth 100000 in
set_option maxHeartbeats 1000000 in
theorem getReq_nil (w : World) :
    Calls Tryz.prog 160 #[.slice none 0 0] w fun e w' => GotIs w' w.heap.size (getR []) e ∧ Below w.heap.size w w' := by
  obtain ⟨w0, hw0⟩ : ∃ w0, w.alloc (Obj.cells #[.string ⟨#[]⟩, .string ⟨#[]⟩, .slice none 0 0, .string ⟨#[]⟩] 39) = w0 := ⟨_, rfl⟩
  have c0 : Below w.heap.size w w0 := by rw [← hw0]; exact (Below.refl _ _).alloc (Nat.le_refl _) _
  have z0 : ZeroB w.heap.size w0 := by rw [← hw0]; exact heap_alloc_new w _
  have C0 := hide c0
  have Z0 := hide z0
  have HG := hide getR_nil
  clear c0 z0
  go_enter Tryz.func160, Tryz.ntmps160
  go_wp2_with fail
  try rw [hw0]
  refine (headEnd_nil w0).mono ?_
  rintro e w1 ⟨rfl, b1⟩
  have hZ1 := Z0.out.next b1
  have C1 := hide (C0.out.trans (b1.mono C0.out.size))
  obtain ⟨q0, q1, q2, q3, f0, f1, f2, f3⟩ := hZ1.cells
  have HZ1 := hide hZ1
  clear hw0 b1 hZ1
  go_wp2
  refine bodyPost_ret (results_get _ w.heap.size _ _ _ _ _ _ _ rfl rfl rfl (set4_heap HZ1.out _ _ _ _)) rfl ?_
  rw [HG.out]
  exact ⟨GotIs.bad _ _ _, set4_below C1.out (Nat.le_refl _) _ _ _ _⟩
/-- Of bytes of the call's own, perhaps none. -/
theorem getReq_own (B : Nat) (v : Value) (l : List UInt8) (mx : Int) (w : World) (h : OwnO w B v l) (hl : l.length ≤ 4194304) (h0 : 0 < w.heap.size) (hmx : w.cell? ⟨0, 0, none⟩ = some (.int .i64 mx)) :
    Calls Tryz.prog 160 #[v] w fun e w' => GotIs w' w.heap.size (getR l) e ∧ Below w.heap.size w w' := by
  have hs := h.slice
  rcases h with ⟨rfl, rfl⟩ | ⟨g, o, cap, cur, rfl, hB, hg, h1, h2, h3, h4⟩
  · exact getReq_nil w
  · obtain ⟨a, c, e, q1, q2, _, _, q3⟩ := hs
    cases e
    exact getReq_any g o l cap mx w q3 hl q1 q2 h0 hmx
end Go.Proofs.YtanebchmeaomgaaGreatDoor
namespace Go.Proofs.YtanebchmeaomgaaGreatDoor
open Go.RowKit
set_option linter.unusedVariables false

/-- A row of cells in block g, none of them frozen. -/
def RowC (w : World) (g n : Nat) : Prop := g < w.heap.size ∧ ∀ j, j < n → (∃ v, w.cell? ⟨g, j, none⟩ = some v) ∧ w.frozen? ⟨g, j, none⟩ = false
theorem RowC.of {w w' : World} {g n : Nat} (h : RowC w g n) (hs' : w.heap.size ≤ w'.heap.size) (hb : w'.heap[g]? = w.heap[g]?) : RowC w' g n := by
  have hc : ∀ o, w'.cell? ⟨g, o, none⟩ = w.cell? ⟨g, o, none⟩ := fun o => World.cell?_of_block (a := ⟨g, o, none⟩) hb
  have hf : ∀ o, w'.frozen? ⟨g, o, none⟩ = w.frozen? ⟨g, o, none⟩ := fun o => World.frozen?_of_block (a := ⟨g, o, none⟩) hb
  exact ⟨Nat.lt_of_lt_of_le h.1 hs', fun j hj => by rw [hc, hf]; exact h.2 j hj⟩
theorem RowC.set {w : World} {g n : Nat} (h : RowC w g n) (o : Nat) (v : Value) : RowC (w.setCell ⟨g, o, none⟩ v) g n := ⟨by simpa using h.1, fun j hj => by
  obtain ⟨⟨u, hu⟩, hf⟩ := h.2 j hj
  refine ⟨?_, by rw [World.frozen?_setCell]; exact hf⟩
  by_cases e : o = j
  · subst e; exact ⟨v, World.cell?_setCell_same _ _ _ hu⟩
  · exact ⟨u, (World.cell?_setCell_other _ _ _ _ (fun e' => e (congrArg Addr.off e'))).trans hu⟩⟩
theorem grownG_refl (w : World) (g : Nat) : w.grownBy w (some g) := ⟨rfl, rfl, rfl, Nat.le_refl _, fun _ _ _ => rfl⟩
theorem grownG_next {w w1 w2 : World} {g : Nat} (h : w.grownBy w1 (some g)) (hb : Below w1.heap.size w1 w2) : w.grownBy w2 (some g) :=
  ⟨hb.os.trans h.os, hb.tape.trans h.tape, hb.output.trans h.output, Nat.le_trans h.size hb.size, fun k hk hne => (hb.block k (Nat.lt_of_lt_of_le hk h.size)).trans (h.block k hk hne)⟩
theorem grownG_set {w w1 : World} {g : Nat} (h : w.grownBy w1 (some g)) (o : Nat) (v : Value) : w.grownBy (w1.setCell ⟨g, o, none⟩ v) (some g) :=
  ⟨h.os, h.tape, h.output, by simpa using h.size, fun k hk hne => (heap_setCell_other w1 ⟨g, o, none⟩ k v (fun e => hne (by rw [e]))).trans (h.block k hk hne)⟩
/-- What was turned of what was there lies in the blocks from lo on, below hi. -/
structure Within (lo hi : Nat) (w w' : World) : Prop where
  os : w'.os = w.os
  tape : w'.tape = w.tape
  output : w'.output = w.output
  size : w.heap.size ≤ w'.heap.size
  block : ∀ k, k < w.heap.size → (k < lo ∨ hi ≤ k) → w'.heap[k]? = w.heap[k]?
theorem Within.refl (lo hi : Nat) (w : World) : Within lo hi w w := ⟨rfl, rfl, rfl, Nat.le_refl _, fun _ _ _ => rfl⟩
theorem Within.trans {lo hi : Nat} {a b c : World} (h : Within lo hi a b) (k : Within lo hi b c) : Within lo hi a c :=
  ⟨k.os.trans h.os, k.tape.trans h.tape, k.output.trans h.output, Nat.le_trans h.size k.size, fun i hi hk => (k.block i (Nat.lt_of_lt_of_le hi h.size) hk).trans (h.block i hi hk)⟩
theorem Within.below {lo hi : Nat} {w w' : World} (h : Within lo hi w w') (hz : lo ≤ w.heap.size) : Below lo w w' :=
  ⟨h.os, h.tape, h.output, h.size, fun k hk => h.block k (by omega) (.inl hk)⟩
theorem Within.of_grown {lo hi g : Nat} {w w' : World} (h : w.grownBy w' (some g)) (h1 : lo ≤ g) (h2 : g < hi) : Within lo hi w w' :=
  ⟨h.os, h.tape, h.output, h.size, fun k hk hd => h.block k hk (fun e => by have := Option.some.inj e; omega)⟩
theorem Within.of_below {lo hi : Nat} {w w' : World} (h : Below w.heap.size w w') : Within lo hi w w' :=
  ⟨h.os, h.tape, h.output, h.size, fun k hk _ => h.block k hk⟩

theorem RowC.setAny {w : World} {g n : Nat} (h : RowC w g n) (g' o : Nat) (v : Value) : RowC (w.setCell ⟨g', o, none⟩ v) g n := by
  by_cases e : g = g'
  · subst e; exact h.set o v
  · exact h.of (by simp [World.setCell]) (Below.heap_setCell _ _ _ _ e)
end Go.Proofs.YtanebchmeaomgaaGreatDoor
namespace Go.Proofs.YtanebchmeaomgaaGreatDoor
open Go.RowKit M
set_option linter.unusedVariables false

theorem OwnY.row {w : World} {B : Nat} {v : Value} {l : List UInt8} (h : OwnY w B v l) : ∃ g c, v = .slice (some ⟨g, 0, none⟩) l.length c ∧ B ≤ g ∧ RowC w g l.length := by
  obtain ⟨g, cap, cur, fz, hv, hB, hg, hfz, h1, h2, h3, h4⟩ := h
  refine ⟨g, cap, hv, hB, (Array.getElem?_eq_some_iff.1 hg).1, fun j hj => ⟨⟨cur[j]'(by omega), by simp [World.cell?, hg, show j < cur.size by omega]⟩, ?_⟩⟩
  obtain ⟨lo, hi⟩ := fz
  simp only [World.frozen?, hg, Bool.and_eq_false_iff, decide_eq_false_iff_not]
  simp only at hfz
  omega
end Go.Proofs.YtanebchmeaomgaaGreatDoor
namespace Go.Proofs.YtanebchmeaomgaaGreatDoor
open Go.RowKit
set_option linter.unusedVariables false

/-- The slice v holds the bytes l; where there are any, at the head of a block from B on, none of them frozen. -/
def FreshY (w : World) (B : Nat) (v : Value) (l : List UInt8) : Prop :=
  ∃ a c, v = .slice a l.length c ∧ l.length ≤ c ∧ c ≤ maxLen ∧ (0 < l.length → ∃ g, a = some ⟨g, 0, none⟩ ∧ B ≤ g ∧ RowC w g l.length) ∧ Byt w w.heap.size a l
theorem FreshY.nul (w : World) (B : Nat) : FreshY w B (.slice none 0 0) [] := ⟨_, 0, rfl, Nat.le_refl _, Nat.zero_le _, fun h => absurd h (Nat.lt_irrefl _), Byt.nil _ _ _⟩
theorem FreshY.empty (w : World) (B : Nat) (a : Option Addr) (c : Nat) (hc : c ≤ maxLen) : FreshY w B (.slice a 0 c) [] := ⟨_, c, rfl, Nat.zero_le _, hc, fun h => absurd h (Nat.lt_irrefl _), Byt.nil _ _ _⟩
theorem FreshY.next {w w' : World} {B : Nat} {v : Value} {l : List UInt8} (h : FreshY w B v l) (hb : Below w.heap.size w w') : FreshY w' B v l := by
  obtain ⟨a, c, rfl, h1, h2, h3, h4⟩ := h
  refine ⟨a, c, rfl, h1, h2, fun h0 => ?_, (h4.below hb (Nat.le_refl _)).mono hb.size⟩
  obtain ⟨g, e, hB, hr⟩ := h3 h0
  exact ⟨g, e, hB, hr.of hb.size (hb.block g hr.1)⟩
/-- What is turned elsewhere does not matter. -/
theorem FreshY.same {w w' : World} {B : Nat} {v : Value} {l : List UInt8} (h : FreshY w B v l) (hs : w.heap.size ≤ w'.heap.size) (hb : ∀ k, B ≤ k → k < w.heap.size → w'.heap[k]? = w.heap[k]?) : FreshY w' B v l := by
  obtain ⟨a, c, rfl, h1, h2, h3, h4⟩ := h
  refine ⟨a, c, rfl, h1, h2, fun h0 => ?_, fun h0 => ?_⟩
  · obtain ⟨g, e, hB, hr⟩ := h3 h0
    exact ⟨g, e, hB, hr.of hs (hb g hB hr.1)⟩
  · obtain ⟨g, e, hB, hr⟩ := h3 h0
    obtain ⟨b, o, e2, hbB, hc⟩ := h4 h0
    rw [e] at e2
    cases e2
    exact ⟨g, 0, e, Nat.lt_of_lt_of_le hbB hs, fun j hj => (World.cell?_of_block (a := ⟨g, 0 + j, none⟩) (hb g hB hr.1)).trans (hc j hj)⟩
theorem OwnY.fresh {w : World} {B : Nat} {v : Value} {l : List UInt8} (h : OwnY w B v l) : FreshY w B v l := by
  obtain ⟨g, c, rfl, hB, _, h1, h2, h3⟩ := h.byt
  refine ⟨_, c, rfl, h1, h2, fun _ => ?_, h3⟩
  obtain ⟨g', c', e, hB', hr⟩ := h.row
  cases e
  exact ⟨g, rfl, hB, hr⟩
end Go.Proofs.YtanebchmeaomgaaGreatDoor
namespace Go.Proofs.YtanebchmeaomgaaGreatDoor
open Go.RowKit M
set_option linter.unusedVariables false

theorem wp_append_O {w : World} {ops : Array Oper} {rest : List Oper} {o : Oper} {a : Act} {Q : Exit → Act → World → Prop} (hgd : o.guard = none) (sl x : Operand)
    (ho : o.op = .call { callee := .builtin .append, args := #[sl, x], argTypes := #[22, 22] })
    (B : Nat) (v : Value) (l : List UInt8) (hs : a.eval sl = v) (hown : OwnO w B v l) (am : Option Addr) (m : List UInt8) (c C : Nat) (hx : a.eval x = .slice am m.length c) (hy : Byt w C am m) (hlen : l.length + m.length ≤ 1099511627776) (hB : B ≤ w.heap.size)
    (h : ∀ v' w', OwnO w' B v' (l ++ m) → w.grownBy w' v.ownBlock → (v'.ownBlock = v.ownBlock ∨ v'.ownBlock = some w.heap.size) → wpList Tryz.prog ops Q rest (a.put o.dst v') w') : wpList Tryz.prog ops Q (o :: rest) a w := by
  refine wpList_plain hgd fun K hK => ?_
  obtain ⟨v', w', hr, h2, h3, h4⟩ := run_append_O w B v l o.type hown am m c C hy hlen hB
  unfold Oper.wp execOp
  simp only [ho, resolve, invoke, builtin, Sem.run_bind, Sem.run_pure, Result.andThen_ok, List.map_toArray, List.map_cons, List.map_nil, hs, hx, hr]
  exact hK _ _ (h v' w' h2 h3 h4)

theorem RowsQ.of {w w' : World} {B : Nat} {v : Value} {qs : List Rv} (h : RowsQ w B v qs) (hb : ∀ g, (v.ownBlock = some g ∨ ∃ q ∈ qs, q.2.ownBlock = some g) → w'.heap[g]? = w.heap[g]?) : RowsQ w' B v qs := by
  refine ⟨⟨h.own.1, ?_⟩, fun q hq => ?_, h.apart, h.pair⟩
  · rcases h.own.2 with h | ⟨g, cap, cur, rfl, hB, hh, hr⟩
    · exact .inl h
    · exact .inr ⟨g, cap, cur, rfl, hB, (hb g (.inl rfl)).trans hh, hr⟩
  · have h1 := h.heads q hq
    refine ⟨h1.1, ?_⟩
    rcases h1.2 with h | ⟨g, cap, cur, e, hB, hh, hr⟩
    · exact .inl h
    · exact .inr ⟨g, cap, cur, e, hB, (hb g (.inr ⟨q, hq, by rw [e]; rfl⟩)).trans hh, hr⟩
theorem RowsQ.lt {w : World} {B : Nat} {v : Value} {qs : List Rv} (h : RowsQ w B v qs) : ∀ g, (v.ownBlock = some g ∨ ∃ q ∈ qs, q.2.ownBlock = some g) → B ≤ g ∧ g < w.heap.size := by
  rintro g (hg | ⟨q, hq, hg⟩)
  · exact World.ownsRow.lt h.own g hg
  · exact (h.heads q hq).lt g hg
/-- '[]Req{}'. -/
theorem RowsQ.bare {w : World} {B N : Nat} (h : w.heap[N]? = some (Obj.cells #[] 39)) (hB : B ≤ N) : RowsQ w B (.slice (some ⟨N, 0, none⟩) 0 0) [] :=
  ⟨⟨rfl, .inr ⟨N, 0, #[], rfl, hB, h, Nat.le_refl _, Nat.zero_le _, rfl, rfl⟩⟩, (fun q h => by cases h), (fun q h => by cases h), List.Pairwise.nil⟩

/-- None of it lies in the box. -/
structure SepN (N : Nat) (uv rv : Value) (qs : List Rv) : Prop where
  u : uv.ownBlock ≠ some N
  r : rv.ownBlock ≠ some N
  q : ∀ q ∈ qs, q.2.ownBlock ≠ some N
theorem SepN.row {N : Nat} {uv rv : Value} {qs : List Rv} (h : SepN N uv rv qs) : ∀ g, (rv.ownBlock = some g ∨ ∃ q ∈ qs, q.2.ownBlock = some g) → g ≠ N := by
  rintro g (hg | ⟨q, hq, hg⟩) rfl
  · exact h.r hg
  · exact h.q q hq hg
/-- An open wire: its box in block N; bytes that are not yet read; requests; all in memory of their own, from B on. -/
def WireSt (w : World) (N B : Nat) (l : List UInt8) (bad : Int) (rs : List Rq) : Prop :=
  ∃ uv rv qs, w.heap[N]? = some (Obj.cells #[uv, .int .i64 bad, rv] 114) ∧ OwnO w B uv l ∧ RowsQ w B rv qs ∧ qs.map Prod.fst = rs ∧ (∀ g, uv.ownBlock = some g → rv.ownBlock ≠ some g ∧ ∀ q ∈ qs, q.2.ownBlock ≠ some g) ∧ SepN N uv rv qs
theorem WireSt.next {w w' : World} {N B : Nat} {l : List UInt8} {bad : Int} {rs : List Rq} (h : WireSt w N B l bad rs) (hb : Below w.heap.size w w') : WireSt w' N B l bad rs := by
  obtain ⟨uv, rv, qs, h1, h2, h3, h4, h5, h6⟩ := h
  exact ⟨uv, rv, qs, (hb.block N (Array.getElem?_eq_some_iff.1 h1).1).trans h1, h2.next hb, h3.next hb, h4, h5, h6⟩
theorem WireSt.lt {w : World} {N B : Nat} {l : List UInt8} {bad : Int} {rs : List Rq} (h : WireSt w N B l bad rs) : N < w.heap.size := by
  obtain ⟨uv, rv, qs, h1, _⟩ := h
  exact (Array.getElem?_eq_some_iff.1 h1).1
theorem box3 {W : World} {N : Nat} {v0 v1 v2 : Value} {t : TypeId} (h : W.heap[N]? = some (Obj.cells #[v0, v1, v2] t)) : W.cell? ⟨N, 0, none⟩ = some v0 ∧ W.cell? ⟨N, 1, none⟩ = some v1 ∧ W.cell? ⟨N, 2, none⟩ = some v2 ∧ W.frozen? ⟨N, 0, none⟩ = false ∧ W.frozen? ⟨N, 1, none⟩ = false ∧ W.frozen? ⟨N, 2, none⟩ = false := by
  refine ⟨?_, ?_, ?_, ?_, ?_, ?_⟩
  all_goals first | (unfold World.cell?; rw [h]; rfl) | (unfold World.frozen?; rw [h]; rfl)

set_option maxHeartbeats 1000000 in
theorem add_any (N B : Nat) (w : World) (l m : List UInt8) (bad : Int) (rs : List Rq) (a : Option Addr) (c C : Nat) (h : WireSt w N B l bad rs) (hBN : B ≤ N) (hy : Byt w C a m) (hs : l.length + m.length ≤ 4194304) :
    Calls Tryz.prog 76 #[.pointer (some ⟨N, 0, none⟩), .slice a m.length c] w fun e w' => (∃ v, e = .returned v) ∧ WireSt w' N B (l ++ m) bad rs ∧ Below B w w' := by
  obtain ⟨uv, rv, qs, h1, h2, h3, h4, h5, h6⟩ := h
  have hNlt : N < w.heap.size := (Array.getElem?_eq_some_iff.1 h1).1
  obtain ⟨x0, x1, x2, f0, f1, f2⟩ := box3 h1
  have hsl := h2.slice
  obtain ⟨au, cu, rfl, _⟩ := hsl
  have H1 := hide h1
  have H2 := hide h2
  have H3 := hide h3
  have H4 := hide h4
  have H5 := hide h5
  have H6 := hide h6
  have HY := hide hy
  clear h1 h2 h3 h4 h5 h6 hy x1 x2 f1 f2
  go_enter Tryz.func76, Tryz.ntmps76
  go_wp2_with (at_builtin; refine wp_append_O rfl _ _ rfl B _ l rfl H2.out a m c C rfl HY.out (by omega) (by omega) ?_)
  intro v' w1 o1 g1 hv
  have hN1 : w1.heap[N]? = w.heap[N]? := g1.block N hNlt (fun e => H6.out.u e.symm)
  have B1 := hN1.trans H1.out
  have hq : ∀ g, (rv.ownBlock = some g ∨ ∃ q ∈ qs, q.2.ownBlock = some g) → w1.heap[g]? = w.heap[g]? := fun g hg => g1.block g (H3.out.lt g hg).2 (fun e => by
    rcases hg with hg | ⟨q, hq, hg⟩
    · exact (H5.out g e.symm).1 hg
    · exact (H5.out g e.symm).2 q hq hg)
  have r1 := H3.out.of hq
  have ap : ∀ g, v'.ownBlock = some g → rv.ownBlock ≠ some g ∧ ∀ q ∈ qs, q.2.ownBlock ≠ some g := by
    intro g hg
    rcases hv with e | e
    · exact H5.out g (by rw [← e]; exact hg)
    · rw [hg] at e
      have hgz : g = w.heap.size := Option.some.inj e
      refine ⟨fun e2 => ?_, fun q hq e2 => ?_⟩
      · have := (H3.out.lt g (.inl e2)).2; omega
      · have := (H3.out.lt g (.inr ⟨q, hq, e2⟩)).2; omega
  have hlt1 := o1.lt
  have sp : SepN N v' rv qs := ⟨fun e => by
    rcases hv with e2 | e2
    · exact H6.out.u (by rw [← e2]; exact e)
    · have hz : N = w.heap.size := Option.some.inj (e.symm.trans e2)
      omega, H6.out.r, H6.out.q⟩
  have bw1 : Below B w w1 := ⟨g1.os, g1.tape, g1.output, g1.size, fun k hk => g1.block k (by omega) (fun e => by have := (H2.out.lt k e.symm).1; omega)⟩
  obtain ⟨a1, c1, rfl, _⟩ := o1.slice
  obtain ⟨y0, y1, y2, e0, e1, e2⟩ := box3 B1
  have HZ : Hid (WireSt (w1.setCell ⟨N, 0, none⟩ (.slice a1 (l ++ m).length c1)) N B (l ++ m) bad rs ∧ Below B w (w1.setCell ⟨N, 0, none⟩ (.slice a1 (l ++ m).length c1))) := by
    refine ⟨⟨_, rv, qs, set_heap B1 0 _, o1.of (fun g hg => Below.heap_setCell _ _ _ _ (fun e => sp.u (by rw [hg, show g = N from e]))), r1.of (fun g hg => Below.heap_setCell _ _ _ _ (sp.row g hg)), H4.out, ap, sp⟩, bw1.setCell hBN _⟩
  clear o1 g1 hv hN1 B1 hq r1 ap sp hlt1 bw1 H6 H1 H2 H3 H4 H5 HY x0 f0 y1 y2 e1 e2
  rw [List.length_append] at *
  go_wp2
  go_end0
  exact ⟨⟨_, rfl⟩, HZ.out⟩
end Go.Proofs.YtanebchmeaomgaaGreatDoor
namespace Go.Proofs.YtanebchmeaomgaaGreatDoor
open Go.RowKit M
set_option linter.unusedVariables false

theorem results_take (tmps : Array Value) (N : Nat) (W : World) (v0 v1 v2 v3 : Value) (x : Int) (h2 : tmps.getD 2 undef = .pointer (some ⟨N, 0, none⟩)) (h3 : tmps.getD 3 undef = .int .i64 x) (hg : W.heap[N]? = some (Obj.cells #[v0, v1, v2, v3] 39)) :
    (results Tryz.f116 tmps).run Tryz.prog W = .ok (.tuple #[.agg #[v0, v1, v2, v3], .int .i64 x]) W := by
  have hl := run_loadVar_row (P := Tryz.prog) W N 39 39 #[v0, v1, v2, v3] (0, 0) _ hg Tryz.underlying39 rfl req_desc
  simp at h2 h3
  simp [results, Tryz.results116, h2, h3, asAddr, hl]

/-- An open wire, part by part. -/
structure WireEx (w : World) (N B : Nat) (uv : Value) (l : List UInt8) (bad : Int) (rv : Value) (qs : List Rv) : Prop where
  box : w.heap[N]? = some (Obj.cells #[uv, .int .i64 bad, rv] 114)
  buf : OwnO w B uv l
  row : RowsQ w B rv qs
  apart : ∀ g, uv.ownBlock = some g → rv.ownBlock ≠ some g ∧ ∀ q ∈ qs, q.2.ownBlock ≠ some g
  sep : SepN N uv rv qs
theorem WireEx.st {w : World} {N B : Nat} {uv rv : Value} {l : List UInt8} {bad : Int} {qs : List Rv} (h : WireEx w N B uv l bad rv qs) : WireSt w N B l bad (qs.map Prod.fst) := ⟨uv, rv, qs, h.box, h.buf, h.row, rfl, h.apart, h.sep⟩
theorem WireSt.ex {w : World} {N B : Nat} {l : List UInt8} {bad : Int} {rs : List Rq} (h : WireSt w N B l bad rs) : ∃ uv rv qs, WireEx w N B uv l bad rv qs ∧ qs.map Prod.fst = rs := by
  obtain ⟨uv, rv, qs, h1, h2, h3, h4, h5, h6⟩ := h
  exact ⟨uv, rv, qs, ⟨h1, h2, h3, h5, h6⟩, h4⟩
theorem WireEx.lt {w : World} {N B : Nat} {uv rv : Value} {l : List UInt8} {bad : Int} {qs : List Rv} (h : WireEx w N B uv l bad rv qs) : N < w.heap.size := (Array.getElem?_eq_some_iff.1 h.box).1

/-- What was there stays, but for the box. -/
def KeepN (N : Nat) (w w' : World) : Prop := ∀ k, k < w.heap.size → k ≠ N → w'.heap[k]? = w.heap[k]?
theorem WireEx.kept {w w' : World} {N B : Nat} {uv uv' rv : Value} {l l' : List UInt8} {bad bad' : Int} {qs : List Rv} (h : WireEx w N B uv l bad rv qs) (hk : KeepN N w w') (hb : w'.heap[N]? = some (Obj.cells #[uv', .int .i64 bad', rv] 114)) (ho : OwnO w B uv' l') (hv : ∀ g, uv'.ownBlock = some g → uv.ownBlock = some g) : WireEx w' N B uv' l' bad' rv qs :=
  ⟨hb, ho.of (fun g hg => hk g (ho.lt g hg).2 (fun e => h.sep.u (by rw [hv g hg, e]))), h.row.of (fun g hg => hk g (h.row.lt g hg).2 (h.sep.row g hg)), fun g hg => h.apart g (hv g hg), ⟨fun e => h.sep.u (hv _ e), h.sep.r, h.sep.q⟩⟩

set_option maxRecDepth 100000 in
set_option maxHeartbeats 4000000 in
theorem take_any (N B : Nat) (w : World) (uv rv : Value) (l : List UInt8) (bad : Int) (qs : List Rv) (mx : Int) (h : WireEx w N B uv l bad rv qs) (hBN : B ≤ N) (hl : l.length ≤ 4194304) (h0 : 0 < w.heap.size) (hmx : w.cell? ⟨0, 0, none⟩ = some (.int .i64 mx)) :
    Calls Tryz.prog 116 #[.pointer (some ⟨N, 0, none⟩)] w fun e w' => (∃ hv, e = .returned (.tuple #[.agg #[.string (getR l).1.m, .string (getR l).1.p, hv, .string (getR l).1.b], .int .i64 (getR l).2.2]) ∧ RowsH w' w.heap.size hv (getR l).1.hs) ∧ (∃ uv', WireEx w' N B uv' (l.drop (getR l).2.1) bad rv qs ∧ ∀ g, uv'.ownBlock = some g → uv.ownBlock = some g) ∧ Below B w w' := by
  obtain ⟨w0, hw0⟩ : ∃ w0, w.alloc (Obj.cells #[.string ⟨#[]⟩, .string ⟨#[]⟩, .slice none 0 0, .string ⟨#[]⟩] 39) = w0 := ⟨_, rfl⟩
  have c0 : Below w.heap.size w w0 := by rw [← hw0]; exact (Below.refl _ _).alloc (Nat.le_refl _) _
  have z0 : ZeroB w.heap.size w0 := by rw [← hw0]; exact heap_alloc_new w _
  have s0 : w0.heap.size = w.heap.size + 1 := by rw [← hw0]; simp
  have hN := h.lt
  have b0 := (c0.block N hN).trans h.box
  obtain ⟨x0, x1, x2, f0, f1, f2⟩ := box3 b0
  have o0 := h.buf.next c0
  have HG := hide (getReq_own B uv l mx w0 o0 hl (Nat.lt_of_lt_of_le h0 c0.size) ((c0.cell (p := ⟨0, 0, none⟩) h0).trans hmx))
  have hn : (getR l).2.1 ≤ l.length := by
    by_cases hc : (getR l).2.2 = 0
    · exact (getR_ok hc).2
    · rw [(getR_bad hc).2]; exact Nat.zero_le _
  obtain ⟨R, n, C, hR⟩ : ∃ R n C, getR l = (R, n, C) := ⟨_, _, _, rfl⟩
  rw [hR] at HG hn ⊢
  obtain ⟨au, cu, hu, hlc, hcm, hnil, hsp, hyt⟩ := h.buf.slice
  unfold maxLen at hcm
  subst hu
  have hn' : n ≤ l.length := hn
  have hni : (n : Int) ≤ (l.length : Int) := by omega
  have hnc : (n : Int) ≤ (cu : Int) := by omega
  have hlci : (l.length : Int) ≤ (cu : Int) := by omega
  have H := hide h
  have C0 := hide c0
  have Z0 := hide z0
  have HNil := hide hnil
  have HSp := hide hsp
  clear h c0 z0 o0 hmx x1 x2 f1 f2 b0 hR hn hnil hsp hyt f0
  go_enter Tryz.func116, Tryz.ntmps116
  go_wp2_with fail
  try rw [hw0]
  refine HG.out.mono ?_
  rintro e w1 ⟨⟨hv, rfl, hrow⟩, b1⟩
  obtain ⟨ah, ch, rfl, hd⟩ := RowsH.hds hrow
  have HRow := hide hrow
  obtain ⟨w2, hw2⟩ : ∃ w2, w1.alloc (Obj.cells #[.string R.m, .string R.p, .slice ah R.hs.length ch, .string R.b] 39) = w2 := ⟨_, rfl⟩
  have b2 : Below w1.heap.size w1 w2 := by rw [← hw2]; exact (Below.refl _ _).alloc (Nat.le_refl _) _
  have r2 : w2.heap[w1.heap.size]? = some (Obj.cells #[.string R.m, .string R.p, .slice ah R.hs.length ch, .string R.b] 39) := by rw [← hw2]; exact heap_alloc_new w1 _
  have s2 : w2.heap.size = w1.heap.size + 1 := by rw [← hw2]; simp
  have hs1 := b1.size
  have c2 : Below w.heap.size w w2 := C0.out.trans ((b1.trans (b2.mono b1.size)).mono C0.out.size)
  have z2 : ZeroB w.heap.size w2 := (Z0.out.next b1).next b2
  have hb2 := (c2.block N hN).trans H.out.box
  obtain ⟨y0, y1, y2, e0, e1, e2⟩ := box3 hb2
  have hr2 := ownsH_below HRow.out b2
  have HR2 := hide hr2
  have C2 := hide c2
  have Z2 := hide z2
  have B2 := hide hb2
  have R2 := hide r2
  have hM1 : w.heap.size < w1.heap.size := by omega
  have fin : ∀ (uv' : Value), OwnO w B uv' (l.drop n) → (∀ g, uv'.ownBlock = some g → (Value.slice au l.length cu).ownBlock = some g) → ∀ (v0 v1 v2 v3 : Value), 
      RowsH (((((w2.setCell ⟨N, 0, none⟩ uv').setCell ⟨w.heap.size, 0, none⟩ v0).setCell ⟨w.heap.size, 1, none⟩ v1).setCell ⟨w.heap.size, 2, none⟩ v2).setCell ⟨w.heap.size, 3, none⟩ v3) w.heap.size (.slice ah R.hs.length ch) R.hs ∧ WireEx (((((w2.setCell ⟨N, 0, none⟩ uv').setCell ⟨w.heap.size, 0, none⟩ v0).setCell ⟨w.heap.size, 1, none⟩ v1).setCell ⟨w.heap.size, 2, none⟩ v2).setCell ⟨w.heap.size, 3, none⟩ v3) N B uv' (l.drop n) bad rv qs ∧ Below B w (((((w2.setCell ⟨N, 0, none⟩ uv').setCell ⟨w.heap.size, 0, none⟩ v0).setCell ⟨w.heap.size, 1, none⟩ v1).setCell ⟨w.heap.size, 2, none⟩ v2).setCell ⟨w.heap.size, 3, none⟩ v3) := by
    intro uv' ho hv v0 v1 v2 v3
    have hlo : w.heap.size < w0.heap.size := by omega
    refine ⟨?_, ?_, ?_⟩
    · refine RowsH.base (B := w0.heap.size) ?_ (Nat.le_of_lt hlo)
      exact ownsRow_setCell_below (ownsRow_setCell_below (ownsRow_setCell_below (ownsRow_setCell_below (ownsRow_setCell_below HR2.out (by show N < _; omega) _) (by show w.heap.size < _; exact hlo) _) (by show w.heap.size < _; exact hlo) _) (by show w.heap.size < _; exact hlo) _) (by show w.heap.size < _; exact hlo) _
    · have hne : N ≠ w.heap.size := by omega
      refine H.out.kept (fun k hk hkN => ?_) (set_other (set_other (set_other (set_other (set_heap B2.out 0 uv') hne _) hne _) hne _) hne _) ho hv
      have hkM : k ≠ w.heap.size := by omega
      rw [Below.heap_setCell _ _ _ _ hkM, Below.heap_setCell _ _ _ _ hkM, Below.heap_setCell _ _ _ _ hkM, Below.heap_setCell _ _ _ _ hkM, Below.heap_setCell _ _ _ _ hkN]
      exact C2.out.block k hk
    · exact set4_below ((C2.out.mono (by omega)).setCell (p := ⟨N, 0, none⟩) hBN uv') (by omega) v0 v1 v2 v3
  have Fin := hide fin
  clear hrow hd b2 r2 c2 z2 hb2 hr2 y1 y2 e1 e2 b1 HG x0 fin
  cases au with
  | none =>
    obtain ⟨hl0, hc0⟩ := HNil.out rfl
    subst hl0
    subst hc0
    have hn0 : n = 0 := by simpa using hn'
    subst hn0
    obtain ⟨w3, hw3⟩ : ∃ w3, w2.setCell ⟨N, 0, none⟩ (.slice none 0 0) = w3 := ⟨_, rfl⟩
    have z3 : ZeroB w.heap.size w3 := by rw [← hw3]; exact set_other Z2.out (by omega) _
    have r3 : w3.heap[w1.heap.size]? = some (Obj.cells #[.string R.m, .string R.p, .slice ah R.hs.length ch, .string R.b] 39) := by rw [← hw3]; exact set_other R2.out (by omega) _
    obtain ⟨p0, p1, p2, p3, q0, q1, q2, q3⟩ := ReqB.cells r3
    obtain ⟨g0, g1, g2, g3, j0, j1, j2, j3⟩ := z3.cells
    have Z3 := hide z3
    have FF := hide (Fin.out (.slice none 0 0) H.out.buf (fun g hg => hg))
    rw [hw3] at FF
    clear z3 r3 q0 q1 q2 q3
    go_wp2
    refine bodyPost_ret (results_take _ w.heap.size _ _ _ _ _ _ rfl rfl (set4_heap Z3.out _ _ _ _)) rfl ?_
    obtain ⟨k1, k2, k3⟩ := FF.out (.string R.m) (.string R.p) (.slice ah R.hs.length ch) (.string R.b)
    exact ⟨⟨_, rfl, k1⟩, ⟨_, k2, fun g hg => hg⟩, k3⟩
  | some x =>
    obtain ⟨g, o, sp⟩ := x
    have hsp : sp = none := HSp.out _ rfl
    subst hsp
    obtain ⟨xv, hxv⟩ : ∃ xv, (if cu = n then some (⟨g, o, none⟩ : Addr) else some ⟨g, o + n, none⟩) = xv := ⟨_, rfl⟩
    have hdl : (l.drop n).length = l.length - n := List.length_drop
    have od := H.out.buf.drop hn'
    rw [hxv, hdl] at od
    have odv : ∀ k, (Value.slice xv (l.length - n) (cu - n)).ownBlock = some k → (Value.slice (some ⟨g, o, none⟩) l.length cu).ownBlock = some k := by
      intro k hk
      rw [← hxv] at hk
      split at hk <;> exact hk
    obtain ⟨w3, hw3⟩ : ∃ w3, w2.setCell ⟨N, 0, none⟩ (.slice xv (l.length - n) (cu - n)) = w3 := ⟨_, rfl⟩
    have z3 : ZeroB w.heap.size w3 := by rw [← hw3]; exact set_other Z2.out (by omega) _
    have r3 : w3.heap[w1.heap.size]? = some (Obj.cells #[.string R.m, .string R.p, .slice ah R.hs.length ch, .string R.b] 39) := by rw [← hw3]; exact set_other R2.out (by omega) _
    obtain ⟨p0, p1, p2, p3, q0, q1, q2, q3⟩ := ReqB.cells r3
    obtain ⟨g0, g1, g2, g3, j0, j1, j2, j3⟩ := z3.cells
    have Z3 := hide z3
    have FF := hide (Fin.out (.slice xv (l.length - n) (cu - n)) od odv)
    have OV := hide odv
    rw [hw3] at FF
    clear z3 r3 q0 q1 q2 q3 od odv
    go_wp2
    refine bodyPost_ret (results_take _ w.heap.size _ _ _ _ _ _ rfl rfl (set4_heap Z3.out _ _ _ _)) rfl ?_
    obtain ⟨k1, k2, k3⟩ := FF.out (.string R.m) (.string R.p) (.slice ah R.hs.length ch) (.string R.b)
    exact ⟨⟨_, rfl, k1⟩, ⟨_, k2, OV.out⟩, k3⟩

set_option maxHeartbeats 400000 in
theorem drop_any (N B : Nat) (w : World) (uv rv : Value) (l : List UInt8) (bad : Int) (qs : List Rv) (h : WireEx w N B uv l bad rv qs) (hBN : B ≤ N) :
    Calls Tryz.prog 117 #[.pointer (some ⟨N, 0, none⟩)] w fun e w' => (∃ v, e = .returned v) ∧ WireEx w' N B (.slice none 0 0) [] bad rv qs ∧ Below B w w' := by
  obtain ⟨x0, x1, x2, f0, f1, f2⟩ := box3 h.box
  have HZ : Hid (WireEx (w.setCell ⟨N, 0, none⟩ (.slice none 0 0)) N B (.slice none 0 0) [] bad rv qs ∧ Below B w (w.setCell ⟨N, 0, none⟩ (.slice none 0 0))) :=
    ⟨h.kept (fun k hk hkN => Below.heap_setCell _ _ _ _ hkN) (set_heap h.box 0 _) (OwnO.nil _ _) (fun g hg => by cases hg), (Below.refl B w).setCell (p := ⟨N, 0, none⟩) hBN _⟩
  clear h x1 x2 f1 f2
  go_enter Tryz.func117, Tryz.ntmps117
  go_wp2
  go_end0
  exact ⟨⟨_, rfl⟩, HZ.out⟩
end Go.Proofs.YtanebchmeaomgaaGreatDoor
namespace Go.Proofs.YtanebchmeaomgaaGreatDoor.M

theorem idx_skip {x : UInt8} {r p : List UInt8} {n : Nat} (h : p.isPrefixOf (x :: r) = false) (hr : Lib.index r p = n) : Lib.index (x :: r) p = ((n + 1 : Nat) : Int) := by
  unfold Lib.index
  rw [h, hr]
  have : ((n : Int) == -1) = false := by rw [beq_eq_false_iff_ne]; omega
  simp [this]
theorem idx_hit {l p : List UInt8} (hp : p ≠ []) (h : p.isPrefixOf l = true) : Lib.index l p = 0 := by
  cases l with
  | nil => cases p with
    | nil => exact absurd rfl hp
    | cons _ _ => simp [List.isPrefixOf] at h
  | cons x r => unfold Lib.index; rw [h]; rfl
theorem pre_no {c x : UInt8} {p r : List UInt8} (h : x ≠ c) : (c :: p).isPrefixOf (x :: r) = false := by
  rw [Bool.eq_false_iff]
  intro e
  simp [List.isPrefixOf] at e
  exact h e.1.symm
theorem idx_word {c : UInt8} {p r : List UInt8} {n : Nat} (hr : Lib.index r (c :: p) = n) : ∀ a : List UInt8, c ∉ a → Lib.index (a ++ r) (c :: p) = ((a.length + n : Nat) : Int) := by
  intro a
  induction a with
  | nil => intro _; rw [List.nil_append, hr]; simp
  | cons x a ih =>
    intro h
    have hx : x ≠ c := fun e => h (by rw [e]; simp)
    have := idx_skip (pre_no (p := p) (r := a ++ r) hx) (ih (fun e => h (by simp [e])))
    rw [List.cons_append, this]
    simp
    omega
/-- A word without the stop's first byte is cut off. -/
theorem cutS_word {c : UInt8} {p a b : List UInt8} (h : c ∉ a) : cutS (c :: p) (a ++ (c :: p ++ b)) = some (a, b) := by
  have h0 : Lib.index (c :: p ++ b) (c :: p) = ((0 : Nat) : Int) := idx_hit (by simp) (by rw [List.isPrefixOf_iff_prefix]; exact List.prefix_append _ _)
  have h1 := idx_word h0 a h
  rw [Nat.add_zero] at h1
  unfold cutS
  rw [h1, if_pos (by omega), Int.toNat_natCast, List.take_left']
  · rw [← List.append_assoc, List.drop_left' (by simp)]
  · rfl

/-- The line of a head. -/
def hdLine (h : Hd) : List UInt8 := h.1.data.toList ++ ([58, 32] ++ h.2.data.toList)
theorem hdTxt_line (h : Hd) : hdTxt h = hdLine h ++ [13, 10] := by simp [hdTxt, hdLine, crlf]
theorem hdsTxt_flat (hs : List Hd) : hdsTxt hs = flatE (hs.map hdLine) := by
  unfold hdsTxt flatE
  rw [List.flatMap_map]
  congr 1
  funext h
  exact hdTxt_line h
theorem flatE_cons (x : List UInt8) (L : List (List UInt8)) : flatE (x :: L) = x ++ (13 :: 10 :: flatE L) := by simp [flatE]

def lineOk (x : List UInt8) : Prop := x ≠ [] ∧ 13 ∉ x
theorem two4_no {x : UInt8} {T : List UInt8} (h : x ≠ 13) : two4.isPrefixOf (13 :: 10 :: x :: T) = false := by
  rw [Bool.eq_false_iff]
  intro e
  simp [two4, List.isPrefixOf] at e
  exact h e.1.symm
/-- Behind lines that are not empty: there the first two line's ends are. -/
theorem idx_lines (T : List UInt8) : ∀ (L : List (List UInt8)), L ≠ [] → (∀ x ∈ L, lineOk x) → ∃ n : Nat, Lib.index (flatE L ++ (13 :: 10 :: T)) two4 = n ∧ n + 2 = (flatE L).length := by
  intro L
  induction L with
  | nil => intro h; exact absurd rfl h
  | cons x L ih =>
    intro _ hL
    have hx := hL x (by simp)
    by_cases hn : L = []
    · subst hn
      refine ⟨x.length, ?_, by simp [flatE]⟩
      have h0 : Lib.index (13 :: 10 :: 13 :: 10 :: T) two4 = ((0 : Nat) : Int) := idx_hit (by simp [two4]) (by simp [two4, List.isPrefixOf])
      have := idx_word (c := 13) (p := [10, 13, 10]) h0 x hx.2
      rw [Nat.add_zero] at this
      rw [← this]
      simp [flatE, two4]
    · obtain ⟨n, h1, h2⟩ := ih hn (fun y hy => hL y (by simp [hy]))
      obtain ⟨y, M, rfl⟩ : ∃ y M, L = y :: M := by
        cases L with
        | nil => exact absurd rfl hn
        | cons y M => exact ⟨y, M, rfl⟩
      obtain ⟨hy1, hy2⟩ := hL y (by simp)
      obtain ⟨c, y', rfl⟩ : ∃ c y', y = c :: y' := by
        cases y with
        | nil => exact absurd rfl hy1
        | cons c y' => exact ⟨c, y', rfl⟩
      have hc : c ≠ 13 := fun e => hy2 (by rw [e]; simp)
      obtain ⟨T', hT'⟩ : ∃ T', flatE ((c :: y') :: M) ++ (13 :: 10 :: T) = c :: T' := ⟨_, by rw [flatE_cons, List.cons_append, List.cons_append]⟩
      rw [hT'] at h1
      have i1 : Lib.index (10 :: c :: T') two4 = ((n + 1 : Nat) : Int) := idx_skip (pre_no (by decide)) h1
      have i2 : Lib.index (13 :: 10 :: c :: T') two4 = ((n + 1 + 1 : Nat) : Int) := idx_skip (two4_no hc) i1
      have i3 := idx_word (c := 13) (p := [10, 13, 10]) i2 x hx.2
      refine ⟨x.length + (n + 1 + 1), ?_, ?_⟩
      · rw [← i3, flatE_cons]
        simp only [List.append_assoc, List.cons_append, hT']
        rfl
      · rw [flatE_cons]
        simp only [List.length_append, List.length_cons]
        omega
theorem lines_word {x : List UInt8} (h : 13 ∉ x) : linesL x = [x] := by
  induction x with
  | nil => rfl
  | cons c r ih =>
    cases r with
    | nil => rfl
    | cons d r =>
      rw [linesL, if_neg (fun e => h (by rw [e.1]; simp)), ih (fun e => h (by simp [e]))]
theorem lines_app {x : List UInt8} (T : List UInt8) (h : 13 ∉ x) : linesL (x ++ 13 :: 10 :: T) = x :: linesL T := by
  induction x with
  | nil => rw [List.nil_append, linesL, if_pos ⟨rfl, rfl⟩]
  | cons c r ih =>
    have hr := ih (fun e => h (by simp [e]))
    have hc : ¬ c = 13 := fun e => h (by rw [e]; simp)
    cases r with
    | nil =>
      rw [List.nil_append] at hr
      rw [List.cons_append, List.nil_append, linesL, if_neg (fun e => hc e.1), hr]
    | cons d r =>
      rw [List.cons_append] at hr
      rw [List.cons_append, List.cons_append, linesL, if_neg (fun e => hc e.1), hr]
/-- The lines, without the last one's end. -/
theorem lines_flat : ∀ (L : List (List UInt8)) (t : List UInt8), L ≠ [] → (∀ x ∈ L, 13 ∉ x) → t ++ [13, 10] = flatE L → linesL t = L := by
  intro L
  induction L with
  | nil => intro t h; exact absurd rfl h
  | cons x L ih =>
    intro t _ hL ht
    by_cases hn : L = []
    · subst hn
      have : t = x := by
        rw [flatE_cons] at ht
        exact List.append_cancel_right (show t ++ [13, 10] = x ++ [13, 10] from ht)
      rw [this]
      exact lines_word (hL x (by simp))
    · obtain ⟨t', ht'⟩ : ∃ t', flatE L = t' ++ [13, 10] := by
        refine ⟨(flatE L).dropLast.dropLast, ?_⟩
        obtain ⟨M, y, rfl⟩ : ∃ M y, L = M ++ [y] := ⟨L.dropLast, L.getLast hn, (List.dropLast_concat_getLast hn).symm⟩
        have : flatE (M ++ [y]) = (flatE M ++ y ++ [13]) ++ [10] := by simp [flatE]
        rw [this, List.dropLast_concat, List.dropLast_concat]
        simp
      rw [flatE_cons, ht'] at ht
      have : t = x ++ 13 :: 10 :: t' := by
        apply List.append_cancel_right (bs := [13, 10])
        rw [ht]
        simp
      rw [this, lines_app _ (hL x (by simp)), ih t' hn (fun y hy => hL y (by simp [hy])) ht'.symm]

theorem bytesOf_self (s : ByteArray) : bytesOf s.data.toList = s := by
  apply ByteArray.ext; simp [bytesOf]
theorem sm_all {l : List UInt8} (h : smB l = true) : allB l [2, 4, 7] = true ∧ l ≠ [] := by
  cases l with
  | nil => cases h
  | cons c r =>
    simp only [smB, Bool.and_eq_true] at h
    exact ⟨h.2, by simp⟩
theorem hd_facts {h : Hd} (hb : hdB h = true) : smB h.1.data.toList = true ∧ 58 ∉ h.1.data.toList ∧ 13 ∉ h.1.data.toList ∧ h.1.data.toList ≠ [] ∧ 13 ∉ h.2.data.toList ∧ trimL h.2.data.toList = h.2.data.toList := by
  simp only [hdB, valB, Bool.and_eq_true, decide_eq_true_eq] at hb
  obtain ⟨h1, h2, h3, h4⟩ := hb
  obtain ⟨h5, h6⟩ := sm_all h1
  exact ⟨h1, allB_no 58 h5 (by decide), allB_no 13 h5 (by decide), h6, allB_no 13 h3 (by decide), h4⟩
theorem hdLine_ok {h : Hd} (hb : hdB h = true) : lineOk (hdLine h) := by
  obtain ⟨_, _, h3, h4, h5, _⟩ := hd_facts hb
  refine ⟨fun e => ?_, fun e => ?_⟩
  · unfold hdLine at e
    exact h4 (List.append_eq_nil_iff.1 e).1
  · unfold hdLine at e
    simp at e
    rcases e with e | e
    · exact h3 (by simpa using e)
    · exact h5 (by simpa using e)
end Go.Proofs.YtanebchmeaomgaaGreatDoor.M
namespace Go.Proofs.YtanebchmeaomgaaGreatDoor.M

/-- Lines with their ends, and an end. -/
def linesTxt (top : List UInt8) (hs hs2 : List Hd) : List UInt8 := top ++ (crlf ++ (hdsTxt hs ++ (hdsTxt hs2 ++ crlf)))
end Go.Proofs.YtanebchmeaomgaaGreatDoor.M
namespace Go.Proofs.YtanebchmeaomgaaGreatDoor.M

/-- An answer: its code, its heads, its body. -/
structure Rs where
  c : Int
  hs : List Hd
  b : ByteArray
def codeB (c : Int) : Bool := inB c 100 599
def respB (r : Rs) : Bool := codeB r.c && (hdsB r.hs && decide (r.b.size ≤ 400))
def zeroA : Rs := ⟨0, [], ⟨#[]⟩⟩
def topA (c : Int) : List UInt8 := proto ++ (32 :: Lib.decDigits c.toNat)
def lenH (n : Nat) : Hd := (lenName, bytesOf (Lib.decDigits n))
def frontA (r : Rs) : List UInt8 := linesTxt (topA r.c) r.hs [lenH r.b.size]
/-- The bytes of an answer. -/
def putA (r : Rs) : List UInt8 := if respB r = true then frontA r ++ r.b.data.toList else []
def sameA (a b : Rs) : Bool := decide (a.c = b.c) && (sameH a.hs b.hs && decide (a.b = b.b))

theorem dec3 {c : Int} (h : codeB c = true) : c = (c.toNat : Int) ∧ 100 ≤ c.toNat ∧ c.toNat ≤ 599 := by
  simp [codeB, inB] at h
  omega
theorem dec_no13 (n : Nat) : 13 ∉ Lib.decDigits n ∧ 58 ∉ Lib.decDigits n ∧ 32 ∉ Lib.decDigits n ∧ Lib.decDigits n ≠ [] := by
  obtain ⟨_, h2, h3, _⟩ := dec_back n n (Nat.le_refl _)
  refine ⟨allB_no 13 h2 (by decide), allB_no 58 h2 (by decide), allB_no 32 h2 (by decide), fun e => ?_⟩
  rw [e] at h3; simp at h3
theorem dec_three {n : Nat} (h1 : 100 ≤ n) (h2 : n ≤ 599) : (Lib.decDigits n).length = 3 := by
  rw [dec_great n (by omega), dec_great (n / 10) (by omega), dec_small (n / 10 / 10) (by omega)]
  simp
theorem lenH_ok (n : Nat) : lineOk (hdLine (lenH n)) := by
  refine ⟨?_, ?_⟩
  · unfold hdLine lenH lenName; simp
  · have := (dec_no13 n).1
    unfold hdLine lenH lenName bytesOf
    simpa using this
theorem free_hd {h : Hd} (hb : hdFree h = true) : hdB h = true ∧ ¬ h.1 = lenName ∧ ¬ h.1 = codName := by
  simpa [hdFree] using hb
theorem resp_hds {r : Rs} (h : respB r = true) : codeB r.c = true ∧ (∀ x ∈ r.hs, hdFree x = true) ∧ r.hs.length ≤ 8 ∧ r.b.size ≤ 400 := by
  simp only [respB, hdsB, Bool.and_eq_true, decide_eq_true_eq, List.all_eq_true] at h
  exact ⟨h.1, h.2.1.1, h.2.1.2, h.2.2⟩
/-- The lines of an answer. -/
def linesA (r : Rs) : List (List UInt8) := topA r.c :: (r.hs.map hdLine ++ [hdLine (lenH r.b.size)])
theorem front_flat (r : Rs) : frontA r = flatE (linesA r) ++ [13, 10] := by
  unfold frontA linesTxt linesA
  rw [flatE_cons, hdsTxt_flat, hdsTxt_flat]
  simp [flatE, crlf]
theorem topA_ok (c : Int) : lineOk (topA c) := by
  refine ⟨by simp [topA, proto], ?_⟩
  have := (dec_no13 c.toNat).1
  simpa [topA, proto] using this
theorem linesA_ok {r : Rs} (h : respB r = true) : ∀ x ∈ linesA r, lineOk x := by
  obtain ⟨_, h2, _⟩ := resp_hds h
  intro x hx
  rcases List.mem_cons.1 hx with rfl | hx
  · exact topA_ok _
  · rcases List.mem_append.1 hx with hx | hx
    · obtain ⟨y, hy, rfl⟩ := List.mem_map.1 hx
      exact hdLine_ok (free_hd (h2 y hy)).1
    · obtain rfl := List.mem_singleton.1 hx
      exact lenH_ok _
theorem putA_of {r : Rs} (h : respB r = true) : putA r = frontA r ++ r.b.data.toList := if_pos h
theorem putA_no {r : Rs} (h : respB r = false) : putA r = [] := if_neg (by rw [h]; decide)
theorem putA_ne {r : Rs} (h : respB r = true) : putA r ≠ [] := by
  rw [putA_of h]
  intro e
  have := (List.append_eq_nil_iff.1 e).1
  simp [frontA, linesTxt, topA, proto] at this
/-- An answer stands ahead of these bytes. -/
def RespAt (r : Rs) (l : List UInt8) : Prop := respB r = true ∧ ∃ q, l = putA r ++ q
theorem RespAt.flat {r : Rs} {l : List UInt8} (h : RespAt r l) : ∃ q, l = flatE (linesA r) ++ (13 :: 10 :: (r.b.data.toList ++ q)) := by
  obtain ⟨h1, q, rfl⟩ := h
  exact ⟨q, by rw [putA_of h1, front_flat]; simp⟩
/-- Where the first two line's ends are. -/
theorem RespAt.idx {r : Rs} {l : List UInt8} (h : RespAt r l) : Lib.index l two4 + 4 = ((frontA r).length : Int) := by
  obtain ⟨q, e⟩ := h.flat
  obtain ⟨n, h1, h2⟩ := idx_lines (r.b.data.toList ++ q) (linesA r) (by simp [linesA]) (linesA_ok h.1)
  rw [e, h1, front_flat]
  simp
  omega
theorem flatE_end {L : List (List UInt8)} (h : L ≠ []) : ∃ t, flatE L = t ++ [13, 10] := by
  obtain ⟨M, y, rfl⟩ : ∃ M y, L = M ++ [y] := ⟨L.dropLast, L.getLast h, (List.dropLast_concat_getLast h).symm⟩
  exact ⟨flatE M ++ y, by simp [flatE]⟩
theorem RespAt.lines {r : Rs} {l : List UInt8} (h : RespAt r l) : linesL (l.take ((frontA r).length - 4)) = linesA r := by
  obtain ⟨q, e⟩ := h.flat
  have hne : linesA r ≠ [] := by simp [linesA]
  obtain ⟨t, ht⟩ := flatE_end hne
  have : l.take ((frontA r).length - 4) = t := by
    rw [front_flat, e, ht]
    simp
  rw [this]
  exact lines_flat _ t hne (fun x hx => (linesA_ok h.1 x hx).2) ht.symm
theorem RespAt.body {r : Rs} {l : List UInt8} (h : RespAt r l) : (frontA r).length + r.b.size ≤ l.length ∧ (l.drop (frontA r).length).take r.b.size = r.b.data.toList ∧ l.take ((frontA r).length + r.b.size) = putA r := by
  obtain ⟨h1, q, rfl⟩ := h
  have e : r.b.data.toList.length = r.b.size := Array.length_toList
  rw [putA_of h1]
  refine ⟨by simp [e], ?_, ?_⟩
  · rw [List.append_assoc, List.drop_left' rfl, List.take_left' e]
  · rw [List.take_left' (by simp [e])]
theorem topA_len {c : Int} (h : codeB c = true) : (topA c).length = 12 ∧ (topA c).take 9 = proto ++ [32] ∧ (topA c).drop 9 = Lib.decDigits c.toNat := by
  obtain ⟨_, h1, h2⟩ := dec3 h
  have := dec_three h1 h2
  refine ⟨by simp [topA, proto, this], by simp [topA, proto], by simp [topA, proto]⟩
theorem parse_code {c : Int} (h : codeB c = true) (m : Int) (hm : 599 ≤ m) : parseNum (Lib.decDigits c.toNat) m = (c, true) := by
  obtain ⟨h0, h1, h2⟩ := dec3 h
  rw [parse_dec _ _ (by omega) (by omega), ← h0]
theorem parse_len {n : Nat} (h : n ≤ 400) : parseNum (Lib.decDigits n) 400 = ((n : Int), true) := parse_dec _ _ (by omega) (by omega)
/-- A head's line, cut at its first ': '. -/
theorem cut_line {h : Hd} (hc : 58 ∉ h.1.data.toList) : cutS [58, 32] (hdLine h) = some (h.1.data.toList, h.2.data.toList) := by
  exact cutS_word (c := 58) (p := [32]) hc
theorem lenH_no {n : Nat} : 58 ∉ (lenH n).1.data.toList := by show 58 ∉ lenName.data.toList; unfold lenName; decide
theorem cut_hdLine {h k : Hd} (hc : 58 ∉ h.1.data.toList) (kc : 58 ∉ k.1.data.toList) (e : hdLine h = hdLine k) : h = k := by
  have h1 := cut_line hc
  have h2 := cut_line kc
  rw [e, h2] at h1
  have h3 := Option.some.inj h1
  have a := congrArg Prod.fst h3
  have b := congrArg Prod.snd h3
  simp only at a b
  refine Prod.ext ?_ ?_
  · rw [← bytesOf_self h.1, ← bytesOf_self k.1, a]
  · rw [← bytesOf_self h.2, ← bytesOf_self k.2, b]
theorem map_hdLine : ∀ {hs ks : List Hd}, (∀ x ∈ hs, 58 ∉ x.1.data.toList) → (∀ x ∈ ks, 58 ∉ x.1.data.toList) → hs.map hdLine = ks.map hdLine → hs = ks := by
  intro hs
  induction hs with
  | nil => intro ks _ _ e; cases ks with
    | nil => rfl
    | cons _ _ => cases e
  | cons x hs ih =>
    intro ks h1 h2 e
    cases ks with
    | nil => cases e
    | cons y ks =>
      simp only [List.map_cons, List.cons.injEq] at e
      rw [cut_hdLine (h1 x (by simp)) (h2 y (by simp)) e.1, ih (fun z hz => h1 z (by simp [hz])) (fun z hz => h2 z (by simp [hz])) e.2]
/-- There is one answer at most ahead of bytes. -/
theorem RespAt.one {r s : Rs} {l : List UInt8} (h : RespAt r l) (k : RespAt s l) : r = s := by
  have h1 := h.idx
  have k1 := k.idx
  have hlen : (frontA r).length = (frontA s).length := by omega
  have h2 := h.lines
  have k2 := k.lines
  rw [hlen, k2] at h2
  unfold linesA at h2
  obtain ⟨c1, g1, _, z1⟩ := resp_hds h.1
  obtain ⟨c2, g2, _, z2⟩ := resp_hds k.1
  simp only [List.cons.injEq] at h2
  obtain ⟨e1, e2⟩ := h2
  have e3 : (s.hs ++ [lenH s.b.size]).map hdLine = (r.hs ++ [lenH r.b.size]).map hdLine := by simpa using e2
  have n1 : ∀ x ∈ s.hs ++ [lenH s.b.size], 58 ∉ x.1.data.toList := fun x hx => by
    rcases List.mem_append.1 hx with hx | hx
    · exact (hd_facts (free_hd (g2 x hx)).1).2.1
    · obtain rfl := List.mem_singleton.1 hx; exact lenH_no
  have n2 : ∀ x ∈ r.hs ++ [lenH r.b.size], 58 ∉ x.1.data.toList := fun x hx => by
    rcases List.mem_append.1 hx with hx | hx
    · exact (hd_facts (free_hd (g1 x hx)).1).2.1
    · obtain rfl := List.mem_singleton.1 hx; exact lenH_no
  have e4 := map_hdLine n1 n2 e3
  have e5 := List.append_inj' e4 rfl
  have e6 : lenH s.b.size = lenH r.b.size := by simpa using e5.2
  have e7 : Lib.decDigits s.b.size = Lib.decDigits r.b.size := by
    have := congrArg (fun x : Hd => x.2.data.toList) e6
    simpa [lenH, bytesOf] using this
  have e8 : r.b.size = s.b.size := by
    have p1 := parse_len z1
    have p2 := parse_len z2
    rw [e7, p1] at p2
    have := congrArg Prod.fst p2
    simp only at this
    omega
  have e9 : r.c = s.c := by
    have p1 := parse_code c1 599 (by omega)
    have p2 := parse_code c2 599 (by omega)
    have t1 := (topA_len c1).2.2
    have t2 := (topA_len c2).2.2
    rw [← e1, t2] at t1
    rw [← t1, p2] at p1
    exact (congrArg Prod.fst p1).symm
  have e10 : r.b = s.b := by
    have b1 := h.body.2.1
    have b2 := k.body.2.1
    rw [hlen, e8, b2] at b1
    rw [← bytesOf_self r.b, ← bytesOf_self s.b, b1]
  cases r
  cases s
  simp only at e9 e10 e5
  rw [e9, e10, e5.1]
open Classical in
/-- What GetResp answers. -/
noncomputable def getA (l : List UInt8) : Rs × Nat × Bool := if h : ∃ r, RespAt r l then (h.choose, (putA h.choose).length, true) else (zeroA, 0, false)
theorem getA_yes {r : Rs} {l : List UInt8} (h : RespAt r l) : getA l = (r, (putA r).length, true) := by
  have hx : ∃ r, RespAt r l := ⟨r, h⟩
  unfold getA
  rw [dif_pos hx, hx.choose_spec.one h]
theorem getA_no {l : List UInt8} (h : ∀ r, ¬ RespAt r l) : getA l = (zeroA, 0, false) := by
  unfold getA
  rw [dif_neg (fun ⟨r, hr⟩ => h r hr)]
theorem respAt_pre {r : Rs} {l : List UInt8} (h : respB r = true) (hp : (putA r).isPrefixOf l = true) : RespAt r l := by
  rw [List.isPrefixOf_iff_prefix] at hp
  obtain ⟨q, e⟩ := hp
  exact ⟨h, q, e.symm⟩
/-- What is left where k heads are read. -/
def leftA (r : Rs) (k : Nat) (q : List UInt8) : List UInt8 := hdsTxt (r.hs.drop k) ++ (hdTxt (lenH r.b.size) ++ (crlf ++ (r.b.data.toList ++ q)))
theorem RespAt.cut0 {r : Rs} {l : List UInt8} (h : RespAt r l) : ∃ q, cutS [32] l = some (proto, Lib.decDigits r.c.toNat ++ (crlf ++ leftA r 0 q)) ∧ cutS crlf (Lib.decDigits r.c.toNat ++ (crlf ++ leftA r 0 q)) = some (Lib.decDigits r.c.toNat, leftA r 0 q) := by
  obtain ⟨h1, q, rfl⟩ := h
  refine ⟨q, ?_, cutS_word (c := 13) (p := [10]) (dec_no13 _).1⟩
  have := cutS_word (c := 32) (p := []) (a := proto) (b := Lib.decDigits r.c.toNat ++ (crlf ++ leftA r 0 q)) (by decide)
  rw [← this, putA_of h1]
  simp [frontA, linesTxt, topA, leftA, hdsTxt]
theorem leftA_cut {r : Rs} (h : respB r = true) (k : Nat) (hk : k < r.hs.length) (q : List UInt8) : cutS [58, 32] (leftA r k q) = some ((r.hs[k]).1.data.toList, (r.hs[k]).2.data.toList ++ (crlf ++ leftA r (k + 1) q)) ∧ cutS crlf ((r.hs[k]).2.data.toList ++ (crlf ++ leftA r (k + 1) q)) = some ((r.hs[k]).2.data.toList, leftA r (k + 1) q) ∧ ¬ (r.hs[k]).1 = lenName := by
  obtain ⟨_, g, _⟩ := resp_hds h
  obtain ⟨f1, f2, _⟩ := free_hd (g _ (List.getElem_mem hk))
  obtain ⟨_, n1, _, _, n2, _⟩ := hd_facts f1
  refine ⟨?_, cutS_word (c := 13) (p := [10]) n2, f2⟩
  have := cutS_word (c := 58) (p := [32]) (a := (r.hs[k]).1.data.toList) (b := (r.hs[k]).2.data.toList ++ (crlf ++ leftA r (k + 1) q)) n1
  rw [← this]
  unfold leftA
  have e : hdsTxt (r.hs.drop k) = hdTxt r.hs[k] ++ hdsTxt (r.hs.drop (k + 1)) := by
    unfold hdsTxt
    rw [List.drop_eq_getElem_cons hk, List.flatMap_cons]
  rw [e]
  simp only [hdTxt, List.append_assoc]
theorem leftA_last (r : Rs) (q : List UInt8) : cutS [58, 32] (leftA r r.hs.length q) = some (lenName.data.toList, Lib.decDigits r.b.size ++ (crlf ++ (crlf ++ (r.b.data.toList ++ q)))) ∧ cutS crlf (Lib.decDigits r.b.size ++ (crlf ++ (crlf ++ (r.b.data.toList ++ q)))) = some (Lib.decDigits r.b.size, crlf ++ (r.b.data.toList ++ q)) := by
  refine ⟨?_, cutS_word (c := 13) (p := [10]) (dec_no13 _).1⟩
  have := cutS_word (c := 58) (p := [32]) (a := lenName.data.toList) (b := Lib.decDigits r.b.size ++ (crlf ++ (crlf ++ (r.b.data.toList ++ q)))) (by decide)
  rw [← this]
  unfold leftA
  rw [List.drop_of_length_le (Nat.le_refl _)]
  simp [hdsTxt, hdTxt, lenH, bytesOf]
end Go.Proofs.YtanebchmeaomgaaGreatDoor.M
