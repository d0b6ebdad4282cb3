/-
  Rows of pieces that the call owns: one more behind, and what they hold.
-/
import Derived.Test.YtcgmokjnjmefpaaGreatDoorMathPieces
import Derived.Test.YtcgmokjnjmefpaaGreatDoorRows
import Derived.Test.YtcgmokjnjmefpaaGreatDoorHide
import Derived.WalkKit
import Derived.WalkSpells
import Derived.WalkLawsBesides
import Derived.Deep.Light
import Derived.Lib.BufferWrite
namespace Go.Proofs.YtcgmokjnjmefpaaGreatDoor
open Go.RowKit M
set_option linter.unusedVariables false

def pcCells (ps : List Pce) : List Value := ps.flatMap fun p => [.int .i64 p.k, .string p.name, .string p.ns, .bool p.has, .string p.s]
theorem pcCells_length (ps : List Pce) : (pcCells ps).length = ps.length * 5 := by
  induction ps with
  | nil => rfl
  | cons h r ih => simp only [pcCells, List.flatMap_cons, List.length_append, List.length_cons, List.length_nil] at *; omega
theorem pcCells_append (ps ts : List Pce) : pcCells (ps ++ ts) = pcCells ps ++ pcCells ts := by simp [pcCells]
theorem pcCells_at (ps : List Pce) : ∀ j (hj : j < ps.length), (pcCells ps)[j * 5]? = some (.int .i64 ps[j].k) ∧ (pcCells ps)[j * 5 + 1]? = some (.string ps[j].name) ∧ (pcCells ps)[j * 5 + 2]? = some (.string ps[j].ns) ∧ (pcCells ps)[j * 5 + 3]? = some (.bool ps[j].has) ∧ (pcCells ps)[j * 5 + 4]? = some (.string ps[j].s) := by
  induction ps with
  | nil => intro j hj; cases hj
  | cons h r ih =>
    intro j hj
    have e : pcCells (h :: r) = .int .i64 h.k :: .string h.name :: .string h.ns :: .bool h.has :: .string h.s :: pcCells r := rfl
    rw [e]
    cases j with
    | zero => exact ⟨rfl, rfl, rfl, rfl, rfl⟩
    | succ j =>
      have h1 := ih j (by simpa using hj)
      have e1 : (j + 1) * 5 = j * 5 + 1 + 1 + 1 + 1 + 1 := by omega
      have e2 : (j + 1) * 5 + 1 = j * 5 + 1 + 1 + 1 + 1 + 1 + 1 := by omega
      have e3 : (j + 1) * 5 + 2 = j * 5 + 2 + 1 + 1 + 1 + 1 + 1 := by omega
      have e4 : (j + 1) * 5 + 3 = j * 5 + 3 + 1 + 1 + 1 + 1 + 1 := by omega
      have e5 : (j + 1) * 5 + 4 = j * 5 + 4 + 1 + 1 + 1 + 1 + 1 := by omega
      rw [e2, e3, e4, e5, e1]
      simp only [List.getElem?_cons_succ, List.getElem_cons_succ]
      exact h1

theorem infoPc : (Tryz.prog.info? 62).map (fun i => (i.zero, i.size, i.bytes)) = some (some (.agg #[.int .i64 0, .string ByteArray.empty, .string ByteArray.empty, .bool false, .string ByteArray.empty]), 5, 64) := by kernel_rfl

/-- A row of pieces of the call's own, from B on. -/
def OwnP (w : World) (B : Nat) (v : Value) (ps : List Pce) : Prop := w.ownsRow B 62 5 v ps.length (pcCells ps)
theorem OwnP.made (w : World) (B : Nat) (hB : B ≤ w.heap.size) : OwnP (w.alloc (Obj.cells #[] 62)) B (.slice (some ⟨w.heap.size, 0, none⟩) 0 0) [] :=
  ⟨rfl, .inr ⟨w.heap.size, 0, #[], rfl, hB, heap_alloc_new w _, Nat.le_refl _, Nat.zero_le _, rfl, rfl⟩⟩
theorem OwnP.alloc {w : World} {B : Nat} {v : Value} {ps : List Pce} (h : OwnP w B v ps) (o : Obj) : OwnP (w.alloc o) B v ps := World.ownsRow.alloc h o
theorem OwnP.next {w w' : World} {B : Nat} {v : Value} {ps : List Pce} (h : OwnP w B v ps) (hb : Below w.heap.size w w') : OwnP w' B v ps := by
  refine ⟨h.1, ?_⟩
  rcases h.2 with h | ⟨g, cap, cur, e, hB, hh, hr⟩
  · exact .inl h
  · exact .inr ⟨g, cap, cur, e, hB, (hb.block g (Array.getElem?_eq_some_iff.1 hh).1).trans hh, hr⟩
theorem OwnP.base {w : World} {B C : Nat} {v : Value} {ps : List Pce} (h : OwnP w B v ps) (hC : C ≤ B) : OwnP w C v ps := by
  refine ⟨h.1, ?_⟩
  rcases h.2 with h | ⟨g, cap, cur, e, hB, hr⟩
  · exact .inl h
  · exact .inr ⟨g, cap, cur, e, Nat.le_trans hC hB, hr⟩
theorem OwnP.slice {w : World} {B : Nat} {v : Value} {ps : List Pce} (h : OwnP w B v ps) : ∃ a cap, v = .slice a ps.length cap := by
  rcases h.2 with ⟨e, h0⟩ | ⟨g, cap, cur, e, _⟩
  · rw [h0]; exact ⟨_, _, e⟩
  · exact ⟨_, _, e⟩

/-- 'l = append(l, p)'. -/
theorem wp_append_piece {w : World} {ops : Array Oper} {rest : List Oper} {o : Oper} {a : Act} {Q : Exit → Act → World → Prop} (hgd : o.guard = none) (s x : Operand)
    (ho : o.op = .call { callee := .builtin .append, args := #[s, x], argTypes := #[58, 58] })
    (B : Nat) (v : Value) (ps : List Pce) (hs : a.eval s = v) (hown : OwnP w B v ps)
    (N : Nat) (p : Pce) (hx : a.eval x = .slice (some ⟨N, 0, none⟩) 1 1) (hc0 : w.cell? ⟨N, 0, none⟩ = some (.int .i64 p.k)) (hc1 : w.cell? ⟨N, 1, none⟩ = some (.string p.name)) (hc2 : w.cell? ⟨N, 2, none⟩ = some (.string p.ns)) (hc3 : w.cell? ⟨N, 3, none⟩ = some (.bool p.has)) (hc4 : w.cell? ⟨N, 4, none⟩ = some (.string p.s))
    (hlen : ps.length + 1 ≤ 1000000000) (hB : B ≤ w.heap.size)
    (h : ∀ g cap w', OwnP w' B (.slice (some ⟨g, 0, none⟩) (ps.length + 1) cap) (ps ++ [p]) → Below B w w' → w.grownBy w' v.ownBlock → wpList Tryz.prog ops Q rest (a.put o.dst (.slice (some ⟨g, 0, none⟩) (ps.length + 1) cap)) w') : wpList Tryz.prog ops Q (o :: rest) a w := by
  obtain ⟨i0, hi, hz0, hz1, hz2⟩ := info_parts infoPc
  have hlt := World.ownsRow.lt hown
  refine wpList_append_own w hgd s x 58 ho B 62 i0 _ 5 64 Tryz.underlying58 hi hz0 hz1 hz2 rfl (by decide) v ps.length _ hs hown ⟨N, 0, none⟩ 1 1 [.int .i64 p.k, .string p.name, .string p.ns, .bool p.has, .string p.s] hx rfl ?_ ?_ ?_ ?_ hB ?_
  · intro j u hj
    have e : ∀ k, (⟨N, 0, none⟩ : Addr).add k = ⟨N, k, none⟩ := fun k => by unfold Addr.add; split <;> simp_all
    rw [e]
    match j, hj with
    | 0, hj => simp at hj; subst hj; exact hc0
    | 1, hj => simp at hj; subst hj; exact hc1
    | 2, hj => simp at hj; subst hj; exact hc2
    | 3, hj => simp at hj; subst hj; exact hc3
    | 4, hj => simp at hj; subst hj; exact hc4
  · intro u hu
    simp only [List.mem_cons, List.not_mem_nil, or_false] at hu
    rcases hu with rfl | rfl | rfl | rfl | rfl <;> rfl
  · unfold maxLen; omega
  · omega
  · intro v' w' ho' hg _
    obtain ⟨g, cap, rfl⟩ : ∃ g cap, v' = .slice (some ⟨g, 0, none⟩) (ps.length + 1) cap := by
      rcases ho'.2 with ⟨_, h0⟩ | ⟨g, cap, cur, hv, _⟩
      · omega
      · exact ⟨g, cap, hv⟩
    refine h g cap w' ?_ ⟨hg.os, hg.tape, hg.output, hg.size, fun k hk => hg.block k (Nat.lt_of_lt_of_le hk hB) (fun e => by have := (hlt k e.symm).1; omega)⟩ hg
    unfold OwnP
    rw [pcCells_append, List.length_append]
    exact ho'

/-- What a slice of pieces holds, in a block below B. -/
def Pcs (w : World) (B : Nat) (a : Option Addr) (ps : List Pce) : Prop :=
  0 < ps.length → ∃ b o, a = some ⟨b, o, none⟩ ∧ b < B ∧ ∀ j (hj : j < ps.length), w.cell? ⟨b, o + j * 5, none⟩ = some (.int .i64 ps[j].k) ∧ w.cell? ⟨b, o + j * 5 + 1, none⟩ = some (.string ps[j].name) ∧ w.cell? ⟨b, o + j * 5 + 2, none⟩ = some (.string ps[j].ns) ∧ w.cell? ⟨b, o + j * 5 + 3, none⟩ = some (.bool ps[j].has) ∧ w.cell? ⟨b, o + j * 5 + 4, none⟩ = some (.string ps[j].s)
theorem Pcs.below {w w' : World} {B C : Nat} {a : Option Addr} {ps : List Pce} (h : Pcs w B a ps) (hb : Below C w w') (hB : B ≤ C) : Pcs w' B a ps := fun h0 => by
  obtain ⟨b, o, e, hbB, hc⟩ := h h0
  have k := fun i => hb.cell (p := ⟨b, i, none⟩) (Nat.lt_of_lt_of_le hbB hB)
  exact ⟨b, o, e, hbB, fun j hj => ⟨(k _).trans (hc j hj).1, (k _).trans (hc j hj).2.1, (k _).trans (hc j hj).2.2.1, (k _).trans (hc j hj).2.2.2.1, (k _).trans (hc j hj).2.2.2.2⟩⟩
theorem Pcs.mono {w : World} {B C : Nat} {a : Option Addr} {ps : List Pce} (h : Pcs w B a ps) (hB : B ≤ C) : Pcs w C a ps := fun h0 => by
  obtain ⟨b, o, e, hbB, hc⟩ := h h0
  exact ⟨b, o, e, Nat.lt_of_lt_of_le hbB hB, hc⟩
theorem Pcs.next {w w' : World} {a : Option Addr} {ps : List Pce} (h : Pcs w w.heap.size a ps) (hb : Below w.heap.size w w') : Pcs w' w'.heap.size a ps := (h.below hb (Nat.le_refl _)).mono hb.size
theorem OwnP.pcs {w : World} {B : Nat} {v : Value} {ps : List Pce} (h : OwnP w B v ps) : ∃ a c, v = .slice a ps.length c ∧ Pcs w w.heap.size a ps := by
  have h' := h
  rcases h.2 with ⟨e, h0⟩ | ⟨g, cap, cur, e, hB, hh, h1, h2, h3, h4⟩
  · have : ps = [] := List.length_eq_zero_iff.1 h0
    subst this
    exact ⟨none, 0, e, fun h => absurd h (Nat.lt_irrefl _)⟩
  · subst e
    refine ⟨_, _, rfl, fun _ => ⟨g, 0, rfl, (Array.getElem?_eq_some_iff.1 hh).1, fun j hj => ?_⟩⟩
    have hx := pcCells_at ps j hj
    have hl := pcCells_length ps
    have hown : w.ownsRow B 62 5 (.slice (some ⟨g, 0, none⟩) ps.length cap) ps.length (pcCells ps) := h'
    rw [Nat.zero_add]
    refine ⟨?_, ?_, ?_, ?_, ?_⟩
    · rw [hown.cellAt (j * 5) (by omega)]; exact hx.1
    · rw [hown.cellAt (j * 5 + 1) (by omega)]; exact hx.2.1
    · rw [hown.cellAt (j * 5 + 2) (by omega)]; exact hx.2.2.1
    · rw [hown.cellAt (j * 5 + 3) (by omega)]; exact hx.2.2.2.1
    · rw [hown.cellAt (j * 5 + 4) (by omega)]; exact hx.2.2.2.2
end Go.Proofs.YtcgmokjnjmefpaaGreatDoor
