/-
  Rows of bytes that the call itself made: what string(b) gives of one; where the walk wants it.
-/
import Derived.Test.YtcgljeagjchobaaDoorRows
import Derived.WalkKit
import Derived.WalkSpells
import Derived.WalkLawsBesides
import Derived.Deep.Light
import Derived.Lib.BufferWrite
import Derived.Laws.IdiomStrings
import Derived.Laws.BytesArg
namespace Go.Proofs.YtcgljeagjchobaaDoor
open Go.RowKit

theorem ret_str {l m : List UInt8} (h : l = m) : Ending.returned (.string ⟨l.toArray⟩) = .returned (.string ⟨m.toArray⟩) := by rw [h]

/-- 'string(b)' of a row of bytes that the call owns: its bytes; the world is as it was. -/
theorem conv_own {w : World} {B n : Nat} {v : Value} {l : List UInt8} (h : w.ownsRow B 5 1 v n (Lib.byteCells l)) :
    (convert 70 9 v).run Tryd.prog w = .ok (.string ⟨l.toArray⟩) w := by
  have hn : n = l.length := by have := h.1; rw [Lib.byteCells_length] at this; omega
  subst hn
  rcases h.2 with ⟨rfl, h0⟩ | ⟨g, cap, cur, rfl, _, hg, _, _, _, htk⟩
  · have : l = [] := List.length_eq_zero_iff.1 h0
    subst this
    exact run_convert_bytes_nil w 70 5 Tryd.underlying70 Tryd.underlying5 0 0 9 Tryd.underlying9
  · refine run_convert_bytes_back w 70 9 5 _ cap l Tryd.underlying70 Tryd.underlying5 Tryd.underlying9 ?_
    intro j hj
    exact h.cells (g := g) rfl j _ (by simp [Lib.byteCells, List.getElem?_eq_getElem hj])

/-- What grew by writes to a row that the call owns is as it was below. -/
theorem below_grown {w w' : World} {B n : Nat} {e : TypeId} {v : Value} {xs : List Value} (h : w.ownsRow B e 1 v n xs) (hB : B ≤ w.heap.size) (hg : w.grownBy w' v.ownBlock) : Below B w w' :=
  ⟨hg.os, hg.tape, hg.output, hg.size, fun k hk => hg.block k (Nat.lt_of_lt_of_le hk hB) (fun e => by have := h.lt k e.symm; omega)⟩

theorem info_byte : (Tryd.prog.info? 5).map (fun i => (i.zero, i.size, i.bytes)) = some (some (.int .u8 0), 1, 1) := by kernel_rfl

/-- 'b = append(b, c)' on a row of bytes that the call owns. -/
theorem wp_append_byte {w : World} {ops : Array Oper} {rest : List Oper} {o : Oper} {a : Act} {Q : Exit → Act → World → Prop} (hgd : o.guard = none) (s x : Operand)
    (ho : o.op = .call { callee := .builtin .append, args := #[s, x], argTypes := #[70, 70] })
    (B : Nat) (v : Value) (n : Nat) (l : List UInt8) (hs : a.eval s = v) (hown : w.ownsRow B 5 1 v n (Lib.byteCells l))
    (ad : Addr) (c : UInt8) (hx : a.eval x = .slice (some ad) 1 1) (hcell : w.cell? ad = some (.int .u8 c.toNat)) (hlen : n + 1 ≤ 140737488355328) (hB : B ≤ w.heap.size)
    (h : ∀ v' w', w'.ownsRow B 5 1 v' (n + 1) (Lib.byteCells (l ++ [c])) → Below B w w' → wpList Tryd.prog ops Q rest (a.put o.dst v') w') : wpList Tryd.prog ops Q (o :: rest) a w := by
  obtain ⟨i0, hi, hz0, hz1, hz2⟩ := info_parts info_byte
  refine wpList_append_own w hgd s x 70 ho B 5 i0 (.int .u8 0) 1 1 Tryd.underlying70 hi hz0 hz1 hz2 rfl (by decide) v n _ hs hown ad 1 1 [.int .u8 c.toNat] hx rfl ?_ ?_ ?_ ?_ hB ?_
  · intro j u hj
    match j, hj with
    | 0, hj =>
      simp at hj; subst hj
      have : ad.add 0 = ad := by unfold Addr.add; split <;> simp_all
      rw [this]; exact hcell
  · intro u hu; simp at hu; subst hu; rfl
  · unfold maxLen; omega
  · omega
  · intro v' w' ho' hg _
    refine h v' w' ?_ (below_grown hown hB hg)
    rw [Lib.byteCells_append]
    exact ho'

/-- A row of bytes in block N, none of them frozen. -/
def RowAt (w : World) (N : Nat) (l : List UInt8) : Prop := ∀ j (hj : j < l.length), w.cell? ⟨N, j, none⟩ = some (.int .u8 l[j].toNat) ∧ w.frozen? ⟨N, j, none⟩ = false

theorem RowAt.alloc {w : World} {N : Nat} {l : List UInt8} (h : RowAt w N l) (hN : N < w.heap.size) (o : Obj) : RowAt (w.alloc o) N l := fun j hj =>
  ⟨(World.cell?_alloc_past o N j hN).trans (h j hj).1, (World.frozen?_alloc_past o N j hN).trans (h j hj).2⟩

theorem RowAt.set {w : World} {N : Nat} {l : List UInt8} (h : RowAt w N l) (k : Nat) (hk : k < l.length) (c : UInt8) : RowAt (w.setCell ⟨N, k, none⟩ (.int .u8 c.toNat)) N (l.set k c) := by
  intro j hj
  have hj' : j < l.length := by simpa using hj
  refine ⟨?_, by rw [World.frozen?_setCell]; exact (h j hj').2⟩
  by_cases e : k = j
  · subst e
    rw [World.cell?_setCell_same _ _ _ (h k hk).1]
    simp
  · have hne : (⟨N, k, none⟩ : Addr) ≠ ⟨N, j, none⟩ := fun e' => e (congrArg Addr.off e')
    rw [World.cell?_setCell_other _ _ _ _ hne, (h j hj').1]
    simp [e]

/-- 'string(b)' of such a row. -/
theorem conv_row {w : World} {N n cap : Nat} {l : List UInt8} (h : RowAt w N l) (hn : l.length = n) :
    (convert 70 9 (.slice (some ⟨N, 0, none⟩) n cap)).run Tryd.prog w = .ok (.string ⟨l.toArray⟩) w := by
  subst hn
  refine run_convert_bytes_back w 70 9 5 _ cap l Tryd.underlying70 Tryd.underlying5 Tryd.underlying9 ?_
  intro j hj
  have : (⟨N, 0, none⟩ : Addr).add j = ⟨N, j, none⟩ := by
    unfold Addr.add; split <;> simp_all
  rw [this]; exact (h j hj).1

/-- 'string(b)' of the end of such a row. -/
theorem conv_at {w : World} {N o n cap : Nat} {pre l : List UInt8} (h : RowAt w N (pre ++ l)) (ho : pre.length = o) (hn : l.length = n) :
    (convert 70 9 (.slice (some ⟨N, o, none⟩) n cap)).run Tryd.prog w = .ok (.string ⟨l.toArray⟩) w := by
  subst hn ho
  refine run_convert_bytes_back w 70 9 5 _ cap l Tryd.underlying70 Tryd.underlying5 Tryd.underlying9 ?_
  intro j hj
  have e : (⟨N, pre.length, none⟩ : Addr).add j = ⟨N, pre.length + j, none⟩ := by
    unfold Addr.add; split <;> simp_all
  rw [e, (h (pre.length + j) (by simp; omega)).1]
  simp

end Go.Proofs.YtcgljeagjchobaaDoor
