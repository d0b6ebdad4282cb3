/-
  Bytes of whatever slice behind a row of bytes that the call made, behind a part of one, and behind none.
-/
import Derived.Test.YtkhnkockdfmkgabOwnYY
import Derived.Test.YtkhnkockdfmkgabHeads
namespace Go.Proofs.Ytkhnkockdfmkgab
open Go.RowKit
set_option linter.unusedVariables false

theorem add_plainA (b o i : Nat) : (⟨b, o, none⟩ : Addr).add i = ⟨b, o + i, none⟩ := by unfold Addr.add; split <;> simp_all

theorem run_append_any (w : World) (B : Nat) (v : Value) (l : List UInt8) (ty : TypeId) (h : OwnY w B v l) (a : Option Addr) (m : List UInt8) (c C : Nat) (hy : Byt w C a m) (hs : l.length + m.length ≤ 4398046511104) (hB : B ≤ w.heap.size) :
    ∃ v' w', (Builtin.append_ #[24, 24] ty #[v, .slice a m.length c]).run Try.prog w = .ok v' w' ∧ OwnY w' B v' (l ++ m) ∧ w.grownBy w' v.ownBlock ∧ (v'.ownBlock = v.ownBlock ∨ v'.ownBlock = some w.heap.size) := by
  by_cases h0 : 0 < m.length
  · obtain ⟨b, o, rfl, _, hc⟩ := hy h0
    exact run_append_from w B v l ty h b o m c hc hs hB
  · have : m = [] := List.length_eq_zero_iff.1 (by omega)
    subst this
    refine ⟨v, w, ?_, by rw [List.append_nil]; exact h, ⟨rfl, rfl, rfl, Nat.le_refl _, fun _ _ _ => rfl⟩, .inl rfl⟩
    obtain ⟨g, cap, cur, fz, rfl, hBg, hg, hfz, hn, hcm, hcs, htake⟩ := h
    obtain ⟨i0, hi, hz0, hz1, hz2⟩ := info_parts infoU8
    cases a <;> simp [Builtin.append_, run_underlying Try.underlying24, sizeOf, typeInfo, hi, Builtin.lenOf, Builtin.firstCells, loadCells, loadCellsFrom, storeCells, hn]

theorem wp_append_any {w : World} {ops : Array Oper} {rest : List Oper} {o : Oper} {a : Act} {Q : Exit → Act → World → Prop} (hgd : o.guard = none) (sl x : Operand)
    (ho : o.op = .call { callee := .builtin .append, args := #[sl, x], argTypes := #[24, 24] })
    (B : Nat) (v : Value) (l : List UInt8) (hs : a.eval sl = v) (hown : OwnY w B v l) (am : Option Addr) (m : List UInt8) (c C : Nat) (hx : a.eval x = .slice am m.length c) (hy : Byt w C am m) (hlen : l.length + m.length ≤ 4398046511104) (hB : B ≤ w.heap.size)
    (h : ∀ v' w', OwnY w' B v' (l ++ m) → w.grownBy w' v.ownBlock → (v'.ownBlock = v.ownBlock ∨ v'.ownBlock = some w.heap.size) → wpList Try.prog ops Q rest (a.put o.dst v') w') : wpList Try.prog ops Q (o :: rest) a w := by
  refine wpList_plain hgd fun K hK => ?_
  obtain ⟨v', w', hr, h2, h3, h4⟩ := run_append_any w B v l o.type hown am m c C hy hlen hB
  unfold Oper.wp execOp
  simp only [ho, resolve, invoke, builtin, Sem.run_bind, Sem.run_pure, Result.andThen_ok, List.map_toArray, List.map_cons, List.map_nil, hs, hx, hr]
  exact hK _ _ (h v' w' h2 h3 h4)

/-- The slice v holds the bytes l: none at all, or a part of a row of the call's own, from B on, up to the row's end. -/
def OwnO (w : World) (B : Nat) (v : Value) (l : List UInt8) : Prop :=
  (v = .slice none 0 0 ∧ l = []) ∨ ∃ g o cap cur, v = .slice (some ⟨g, o, none⟩) l.length cap ∧ B ≤ g ∧ w.heap[g]? = some (.cells cur 5) ∧ l.length ≤ cap ∧ cap ≤ maxLen ∧ o + cap ≤ cur.size ∧ (cur.toList.drop o).take l.length = Lib.byteCells l
theorem OwnO.nil (w : World) (B : Nat) : OwnO w B (.slice none 0 0) [] := .inl ⟨rfl, rfl⟩
theorem OwnO.of {w w' : World} {B : Nat} {v : Value} {l : List UInt8} (h : OwnO w B v l) (hb : ∀ g, v.ownBlock = some g → w'.heap[g]? = w.heap[g]?) : OwnO w' B v l := by
  rcases h with h | ⟨g, o, cap, cur, rfl, hB, hg, hr⟩
  · exact .inl h
  · exact .inr ⟨g, o, cap, cur, rfl, hB, (hb g rfl).trans hg, hr⟩
theorem OwnO.lt {w : World} {B : Nat} {v : Value} {l : List UInt8} (h : OwnO w B v l) : ∀ g, v.ownBlock = some g → B ≤ g ∧ g < w.heap.size := by
  rcases h with ⟨rfl, _⟩ | ⟨g, o, cap, cur, rfl, hB, hg, hr⟩
  · intro g hg; cases hg
  · intro k hk
    have : g = k := Option.some.inj hk
    subst this
    exact ⟨hB, (Array.getElem?_eq_some_iff.1 hg).1⟩
theorem OwnO.next {w w' : World} {B : Nat} {v : Value} {l : List UInt8} (h : OwnO w B v l) (hb : Below w.heap.size w w') : OwnO w' B v l := h.of (fun g hg => hb.block g (h.lt g hg).2)
theorem OwnO.slice {w : World} {B : Nat} {v : Value} {l : List UInt8} (h : OwnO w B v l) : ∃ a c, v = .slice a l.length c ∧ l.length ≤ c ∧ c ≤ maxLen ∧ (a = none → l = [] ∧ c = 0) ∧ (∀ x, a = some x → x.spot = none) ∧ Byt w w.heap.size a l := by
  rcases h with ⟨rfl, rfl⟩ | ⟨g, o, cap, cur, rfl, hB, hg, h1, h2, h3, h4⟩
  · exact ⟨none, 0, rfl, Nat.le_refl _, Nat.zero_le _, fun _ => ⟨rfl, rfl⟩, (fun x e => by cases e), Byt.nil _ _ _⟩
  · refine ⟨some ⟨g, o, none⟩, cap, rfl, h1, h2, (fun e => by cases e), (fun x e => by have := Option.some.inj e; rw [← this]), fun _ => ⟨g, o, rfl, (Array.getElem?_eq_some_iff.1 hg).1, fun j hj => ?_⟩⟩
    have hx : cur.toList[o + j]? = some (.int .u8 l[j].toNat) := by
      have e : ((cur.toList.drop o).take l.length)[j]? = cur.toList[o + j]? := by rw [List.getElem?_take, if_pos hj, List.getElem?_drop]
      rw [← e, h4]
      simp [Lib.byteCells, List.getElem?_eq_getElem hj]
    simp [World.cell?, hg]
    simpa using hx
/-- What is left behind the first n bytes. -/
theorem OwnO.drop {w : World} {B g o c : Nat} {l : List UInt8} {n : Nat} (h : OwnO w B (.slice (some ⟨g, o, none⟩) l.length c) l) (hn : n ≤ l.length) : OwnO w B (.slice (if c = n then some ⟨g, o, none⟩ else some ⟨g, o + n, none⟩) (l.drop n).length (c - n)) (l.drop n) := by
  rcases h with ⟨h, _⟩ | ⟨g', o', cap, cur, e, hB, hg, h1, h2, h3, h4⟩
  · cases h
  · cases e
    by_cases hc : c = n
    · rw [if_pos hc]
      have e0 : l.drop n = [] := List.drop_eq_nil_of_le (by omega)
      rw [e0]
      exact .inr ⟨g, o, c - n, cur, rfl, hB, hg, Nat.zero_le _, by omega, by omega, rfl⟩
    · rw [if_neg hc]
      refine .inr ⟨g, o + n, c - n, cur, rfl, hB, hg, by rw [List.length_drop]; omega, by omega, by omega, ?_⟩
      rw [List.length_drop, ← List.drop_drop]
      have := congrArg (List.drop n) h4
      rw [List.drop_take] at this
      rw [this]
      simp [Lib.byteCells, List.map_drop]

theorem run_append_O (w : World) (B : Nat) (v : Value) (l : List UInt8) (ty : TypeId) (h : OwnO w B v l) (a : Option Addr) (m : List UInt8) (c C : Nat) (hy : Byt w C a m) (hs : l.length + m.length ≤ 1099511627776) (hB : B ≤ w.heap.size) :
    ∃ v' w', (Builtin.append_ #[24, 24] ty #[v, .slice a m.length c]).run Try.prog w = .ok v' w' ∧ OwnO w' B v' (l ++ m) ∧ w.grownBy w' v.ownBlock ∧ (v'.ownBlock = v.ownBlock ∨ v'.ownBlock = some w.heap.size) := by
  obtain ⟨i0, hi, hz0, hz1, hz2⟩ := info_parts infoU8
  by_cases h0 : 0 < m.length
  · obtain ⟨g0, o0, rfl, _, hm⟩ := hy h0
    have hlen : (l ++ m).length = l.length + m.length := List.length_append
    have hnews : ∀ j u, (Lib.byteCells m)[j]? = some u → w.cell? ((⟨g0, o0, none⟩ : Addr).add j) = some u := by
      intro j u hu
      have hj : j < m.length := by
        have := (List.getElem?_eq_some_iff.1 hu).1
        rwa [Lib.byteCells_length] at this
      rw [add_plainA, hm j hj]
      simp [Lib.byteCells, List.getElem?_eq_getElem hj] at hu
      rw [← hu]
    have hone : ∀ u ∈ Lib.byteCells m, u.oneCell' = true := by
      intro u hu
      simp only [Lib.byteCells, List.mem_map] at hu
      obtain ⟨c, _, rfl⟩ := hu
      rfl
    rcases h with ⟨rfl, rfl⟩ | ⟨g, o, cap, cur, rfl, hBg, hg, hn, hcm, hcs, htake⟩
    · have hr := run_append_nil (P := Try.prog) w 24 ty 5 i0 (.int .u8 0) Try.underlying24 hi hz0 ⟨g0, o0, none⟩ m.length c (Lib.byteCells m) (by rw [hz1, Lib.byteCells_length, Nat.mul_one]) hnews h0 (by simp at hs; omega) (by rw [hz2]; simp at hs; omega)
      have hge := grownCap_ge w m.length 0 5
      have hcm2 : grownCap w m.length 0 5 ≤ maxLen := grownCap_le_maxLen w m.length 0 5 (by unfold maxLen; simp at hs; omega)
      refine ⟨_, _, hr, .inr ⟨w.heap.size, 0, _, _, by rw [List.nil_append], hB, heap_alloc_new w.drew _, by rw [List.nil_append]; exact hge, hcm2, ?_, ?_⟩, ⟨rfl, rfl, rfl, by simp, fun k hk _ => ((Below.refl w.drew.heap.size w.drew).alloc (Nat.le_refl _) _).block k (by show k < w.heap.size; omega)⟩, .inr rfl⟩
      · have hz1' : (Value.int IntKind.u8 0).cells.size = 1 := rfl
        simp only [Array.size_append, List.size_toArray, size_zeroCells, hz1', Lib.byteCells_length]
        omega
      · simp only [Array.toList_append, List.drop_zero, List.nil_append]
        have : m.length = (Lib.byteCells m).length := by rw [Lib.byteCells_length]
        rw [this]
        exact List.take_left
    · have hgl : g < w.heap.size := (Array.getElem?_eq_some_iff.1 hg).1
      by_cases hroom : l.length + m.length ≤ cap
      · have hf := run_firstCells_some (P := Try.prog) w 1 m.length ⟨g0, o0, none⟩ m.length c (Lib.byteCells m) (by rw [Lib.byteCells_length]; omega) hnews
        have hst := storeCells_behind Try.prog g (o + l.length) 5 (0, 0) (Lib.byteCells m) 0 cur w hg (.inl rfl) (by rw [Lib.byteCells_length]; omega) hone
        simp only [Nat.add_zero, Lib.byteCells_length] at hst
        refine ⟨.slice (some ⟨g, o, none⟩) (l.length + m.length) cap, w.setRow g (cur.toList.take (o + l.length) ++ Lib.byteCells m ++ cur.toList.drop (o + l.length + m.length)).toArray, ?_, ?_, ?_⟩
        · simp [Builtin.append_, run_underlying Try.underlying24, sizeOf, typeInfo, hi, hz1, Builtin.lenOf, hroom, hf, add_plainA, hst]
        · refine .inr ⟨g, o, cap, _, by rw [hlen], hBg, setRow_heap w g cur _ 5 _ hg, by omega, hcm, ?_, ?_⟩
          · simp only [List.size_toArray, List.length_append, List.length_take, List.length_drop, Array.length_toList, Lib.byteCells_length]
            omega
          · have e1 : cur.toList.take (o + l.length) = cur.toList.take o ++ Lib.byteCells l := by rw [List.take_add, htake]
            have e2 : (cur.toList.take o).length = o := by rw [List.length_take, Array.length_toList]; omega
            rw [e1, List.append_assoc, List.append_assoc, List.drop_left' e2, ← List.append_assoc, ← Lib.byteCells_append]
            have : (l ++ m).length = (Lib.byteCells (l ++ m)).length := by rw [Lib.byteCells_length]
            rw [this]
            exact List.take_left
        · exact ⟨⟨rfl, rfl, rfl, by simp, fun k _ hk => setRow_other w g k _ (fun e => hk (by simp [Value.ownBlock, e]))⟩, .inl rfl⟩
      · have holds : ∀ j u, (Lib.byteCells l)[j]? = some u → w.cell? ((⟨g, o, none⟩ : Addr).add j) = some u := by
          intro j u hu
          rw [add_plainA, ← htake] at *
          rw [List.getElem?_take] at hu
          split at hu
          · rw [List.getElem?_drop] at hu
            simp [World.cell?, hg]; simpa using hu
          · cases hu
        have hr := run_append_grow (P := Try.prog) w 24 ty 5 i0 (.int .u8 0) Try.underlying24 hi hz0 ⟨g, o, none⟩ l.length cap (Lib.byteCells l) (by rw [hz1, Lib.byteCells_length, Nat.mul_one]) holds ⟨g0, o0, none⟩ m.length c (Lib.byteCells m) (by rw [hz1, Lib.byteCells_length, Nat.mul_one]) hnews (by omega) (by omega) (by rw [hz2]; exact growslice_fits (by omega) (by omega))
        have hge := grownCap_ge w (l.length + m.length) cap 5
        have hcm2 : grownCap w (l.length + m.length) cap 5 ≤ maxLen := grownCap_le_maxLen w (l.length + m.length) cap 5 (by unfold maxLen; omega)
        refine ⟨_, _, hr, .inr ⟨w.heap.size, 0, _, _, by rw [hlen], hB, heap_alloc_new w.drew _, by omega, hcm2, ?_, ?_⟩, ⟨rfl, rfl, rfl, by simp, fun k hk _ => ((Below.refl w.drew.heap.size w.drew).alloc (Nat.le_refl _) _).block k (by show k < w.heap.size; omega)⟩, .inr rfl⟩
        · have hz1' : (Value.int IntKind.u8 0).cells.size = 1 := rfl
          simp only [Array.size_append, List.size_toArray, size_zeroCells, hz1', Lib.byteCells_length]
          omega
        · simp only [Array.toList_append, List.append_assoc, List.drop_zero]
          rw [← List.append_assoc, ← Lib.byteCells_append]
          have : (l ++ m).length = (Lib.byteCells (l ++ m)).length := by rw [Lib.byteCells_length]
          rw [this]
          exact List.take_left
  · have : m = [] := List.length_eq_zero_iff.1 (by omega)
    subst this
    refine ⟨v, w, ?_, by rw [List.append_nil]; exact h, ⟨rfl, rfl, rfl, Nat.le_refl _, fun _ _ _ => rfl⟩, .inl rfl⟩
    rcases h with ⟨rfl, rfl⟩ | ⟨g, o, cap, cur, rfl, hBg, hg, hn, hcm, hcs, htake⟩
    · cases a <;> simp [Builtin.append_, run_underlying Try.underlying24, sizeOf, typeInfo, hi, Builtin.lenOf, Builtin.firstCells, loadCells, loadCellsFrom]
    · cases a <;> simp [Builtin.append_, run_underlying Try.underlying24, sizeOf, typeInfo, hi, Builtin.lenOf, Builtin.firstCells, loadCells, loadCellsFrom, storeCells, hn]
end Go.Proofs.Ytkhnkockdfmkgab
