/-
  Bytes of another slice behind a row of bytes that the call made.
-/
import Derived.Test.YtkhnkockdfmkgaaDoorAllOf
namespace Go.Proofs.YtkhnkockdfmkgaaDoor
open Go.RowKit
set_option linter.unusedVariables false

theorem run_append_from (w : World) (B : Nat) (v : Value) (l : List UInt8) (ty : TypeId) (h : OwnY w B v l) (g0 o0 : Nat) (m : List UInt8) (c : Nat) (hm : ∀ j (hj : j < m.length), w.cell? ⟨g0, o0 + j, none⟩ = some (.int .u8 m[j].toNat)) (hs : l.length + m.length ≤ 4398046511104) (hB : B ≤ w.heap.size) :
    ∃ v' w', (Builtin.append_ #[22, 22] ty #[v, .slice (some ⟨g0, o0, none⟩) m.length c]).run Tryd.prog w = .ok v' w' ∧ OwnY w' B v' (l ++ m) ∧ w.grownBy w' v.ownBlock ∧ (v'.ownBlock = v.ownBlock ∨ v'.ownBlock = some w.heap.size) := by
  obtain ⟨i0, hi, hz0, hz1, hz2⟩ := info_parts infoU8
  obtain ⟨g, cap, cur, fz, rfl, hBg, hg, hfz, hn, hcm, hcs, htake⟩ := h
  have hlen : (l ++ m).length = l.length + m.length := List.length_append
  have hgl : g < w.heap.size := (Array.getElem?_eq_some_iff.1 hg).1
  have hnews : ∀ j u, (Lib.byteCells m)[j]? = some u → w.cell? ((⟨g0, o0, none⟩ : Addr).add j) = some u := by
    intro j u hu
    have hj : j < m.length := by
      have := (List.getElem?_eq_some_iff.1 hu).1
      rwa [Lib.byteCells_length] at this
    have hadd : (⟨g0, o0, none⟩ : Addr).add j = ⟨g0, o0 + j, none⟩ := by unfold Addr.add; split <;> simp_all
    rw [hadd, hm j hj]
    simp [Lib.byteCells, List.getElem?_eq_getElem hj] at hu
    rw [← hu]
  have hone : ∀ u ∈ Lib.byteCells m, u.oneCell' = true := by
    intro u hu
    simp only [Lib.byteCells, List.mem_map] at hu
    obtain ⟨c, _, rfl⟩ := hu
    rfl
  by_cases hroom : l.length + m.length ≤ cap
  · have hf := run_firstCells_some (P := Tryd.prog) w 1 m.length ⟨g0, o0, none⟩ m.length c (Lib.byteCells m) (by rw [Lib.byteCells_length]; omega) hnews
    have hst := storeCells_behind Tryd.prog g l.length 5 fz (Lib.byteCells m) 0 cur w hg hfz (by rw [Lib.byteCells_length]; omega) hone
    simp only [Nat.add_zero, Lib.byteCells_length] at hst
    refine ⟨.slice (some ⟨g, 0, none⟩) (l.length + m.length) cap, w.setRow g (cur.toList.take l.length ++ Lib.byteCells m ++ cur.toList.drop (l.length + m.length)).toArray, ?_, ?_, ?_⟩
    · simp [Builtin.append_, run_underlying Tryd.underlying22, sizeOf, typeInfo, hi, hz1, Builtin.lenOf, hroom, hf, Addr.add_lit, hst]
    · refine ⟨g, cap, _, fz, by rw [hlen], hBg, setRow_heap w g cur _ 5 _ hg, ?_, by omega, hcm, ?_, ?_⟩
      · rcases hfz with hfz | hfz
        · exact .inl hfz
        · right
          simp only [List.size_toArray, List.length_append, List.length_take, List.length_drop, Array.length_toList, Lib.byteCells_length]
          omega
      · simp only [List.size_toArray, List.length_append, List.length_take, List.length_drop, Array.length_toList, Lib.byteCells_length]
        omega
      · rw [htake, Lib.byteCells_append]
        have : (l ++ m).length = (Lib.byteCells l ++ Lib.byteCells m).length := by rw [List.length_append, List.length_append, Lib.byteCells_length, Lib.byteCells_length]
        rw [this]
        exact List.take_left
    · exact ⟨⟨rfl, rfl, rfl, by simp, fun k _ hk => setRow_other w g k _ (fun e => hk (by simp [Value.ownBlock, e]))⟩, .inl rfl⟩
  · have holds : ∀ j u, (Lib.byteCells l)[j]? = some u → w.cell? ((⟨g, 0, none⟩ : Addr).add j) = some u := by
      intro j u hu
      have hadd : (⟨g, 0, none⟩ : Addr).add j = ⟨g, j, none⟩ := by unfold Addr.add; split <;> simp_all
      rw [hadd, ← htake] at *
      rw [List.getElem?_take] at hu
      split at hu
      · simp [World.cell?, hg]; simpa using hu
      · cases hu
    have hr := run_append_grow (P := Tryd.prog) w 22 ty 5 i0 (.int .u8 0) Tryd.underlying22 hi hz0 ⟨g, 0, none⟩ l.length cap (Lib.byteCells l) (by rw [hz1, Lib.byteCells_length, Nat.mul_one]) holds ⟨g0, o0, none⟩ m.length c (Lib.byteCells m) (by rw [hz1, Lib.byteCells_length, Nat.mul_one]) hnews (by omega) (by omega) (by rw [hz2]; exact growslice_fits (by omega) (by omega))
    have hge := grownCap_ge w (l.length + m.length) cap 5
    have hcm2 : grownCap w (l.length + m.length) cap 5 ≤ maxLen := grownCap_le_maxLen w (l.length + m.length) cap 5 (by unfold maxLen; omega)
    refine ⟨_, _, hr, ⟨w.heap.size, _, _, (0, 0), by rw [hlen], hB, heap_alloc_new w.drew _, .inl rfl, by omega, hcm2, ?_, ?_⟩, ⟨rfl, rfl, rfl, by simp, fun k hk _ => ((Below.refl w.drew.heap.size w.drew).alloc (Nat.le_refl _) _).block k (by show k < w.heap.size; omega)⟩, .inr rfl⟩
    · have hz1' : (Value.int IntKind.u8 0).cells.size = 1 := rfl
      simp only [Array.size_append, List.size_toArray, size_zeroCells, hz1', Lib.byteCells_length]
      omega
    · simp only [Array.toList_append, List.append_assoc]
      rw [← List.append_assoc, ← Lib.byteCells_append]
      have : (l ++ m).length = (Lib.byteCells (l ++ m)).length := by rw [Lib.byteCells_length]
      rw [this]
      exact List.take_left

theorem run_append_byts (w : World) (B : Nat) (v : Value) (l : List UInt8) (ty : TypeId) (h : OwnY w B v l) (g0 : Nat) (m : List UInt8) (c : Nat) (hm : ∀ j (hj : j < m.length), w.cell? ⟨g0, j, none⟩ = some (.int .u8 m[j].toNat)) (hs : l.length + m.length ≤ 4398046511104) (hB : B ≤ w.heap.size) :
    ∃ v' w', (Builtin.append_ #[22, 22] ty #[v, .slice (some ⟨g0, 0, none⟩) m.length c]).run Tryd.prog w = .ok v' w' ∧ OwnY w' B v' (l ++ m) ∧ w.grownBy w' v.ownBlock ∧ (v'.ownBlock = v.ownBlock ∨ v'.ownBlock = some w.heap.size) :=
  run_append_from w B v l ty h g0 0 m c (fun j hj => by rw [Nat.zero_add]; exact hm j hj) hs hB

theorem wp_append_byts {w : World} {ops : Array Oper} {rest : List Oper} {o : Oper} {a : Act} {Q : Exit → Act → World → Prop} (hgd : o.guard = none) (sl x : Operand)
    (ho : o.op = .call { callee := .builtin .append, args := #[sl, x], argTypes := #[22, 22] })
    (B : Nat) (v : Value) (l : List UInt8) (hs : a.eval sl = v) (hown : OwnY w B v l) (g0 : Nat) (m : List UInt8) (c : Nat) (hx : a.eval x = .slice (some ⟨g0, 0, none⟩) m.length c) (hm : ∀ j (hj : j < m.length), w.cell? ⟨g0, j, none⟩ = some (.int .u8 m[j].toNat)) (hlen : l.length + m.length ≤ 4398046511104) (hB : B ≤ w.heap.size)
    (h : ∀ v' w', OwnY w' B v' (l ++ m) → w.grownBy w' v.ownBlock → (v'.ownBlock = v.ownBlock ∨ v'.ownBlock = some w.heap.size) → wpList Tryd.prog ops Q rest (a.put o.dst v') w') : wpList Tryd.prog ops Q (o :: rest) a w := by
  refine wpList_plain hgd fun K hK => ?_
  obtain ⟨v', w', hr, h2, h3, h4⟩ := run_append_byts w B v l o.type hown g0 m c hm hlen hB
  unfold Oper.wp execOp
  simp only [ho, resolve, invoke, builtin, Sem.run_bind, Sem.run_pure, Result.andThen_ok, List.map_toArray, List.map_cons, List.map_nil, hs, hx, hr]
  exact hK _ _ (h v' w' h2 h3 h4)
end Go.Proofs.YtkhnkockdfmkgaaDoor
