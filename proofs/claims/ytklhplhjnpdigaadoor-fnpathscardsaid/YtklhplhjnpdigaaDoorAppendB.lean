/-
  Appending some bytes to a row of bytes that the call owns, at a step of a statement whose order is drawn.
-/
import Derived.Test.YtklhplhjnpdigaaDoorOwnBytes
import Derived.Deep.RegionHeld3
import Derived.Deep.AppendLies
namespace Go.Proofs.YtklhplhjnpdigaaDoor
open Go.RowKit

theorem step_append_bytes {w : World} {ops : Array Oper} {o : Oper} {a : Act} {K : Act → World → Prop} {Q : Exit → Act → World → Prop} {E : Prop} (hgd : o.guard = none) (s x : Operand)
    (ho : o.op = .call { callee := .builtin .append, args := #[s, x], argTypes := #[22, 22] })
    (B : Nat) (v : Value) (n m : Nat) (l news : List UInt8) (hs : a.eval s = v) (hn : news.length = m) (hm : 0 < m) (ad : Addr) (hx : a.eval x = .slice (some ad) m m) (hlen : n + m ≤ 140737488355328)
    (hown : w.ownsRow B 5 1 v n (Lib.byteCells l)) (hcell : ∀ j (hj : j < news.length), w.cell? (ad.add j) = some (.int .u8 news[j].toNat)) (hB : B ≤ w.heap.size)
    (h : ∀ g cap w', w'.ownsRow B 5 1 (.slice (some ⟨g, 0, none⟩) (n + m) cap) (n + m) (Lib.byteCells (l ++ news)) → Below B w w' → K (a.put o.dst (.slice (some ⟨g, 0, none⟩) (n + m) cap)) w') :
    if Region.wanted o (yielded ops a.tmps) = true then Oper.wp Tryd.prog o a w K Q else E := by
  obtain ⟨i0, hi, hz0, hz1, hz2⟩ := info_parts info_byte
  refine step_append_lies w hgd s x 22 ho B 5 i0 (.int .u8 0) 1 1 Tryd.underlying22 hi hz0 hz1 hz2 rfl (by decide) v n _ hs hown ad m m (Lib.byteCells news) hx ?_ ?_ ?_ hm ?_ ?_ hB w.heap.size rfl ?_
  · rw [Lib.byteCells_length, hn, Nat.mul_one]
  · intro j u hj
    have hjl : j < news.length := by
      have := (List.getElem?_eq_some_iff.1 hj).1
      rwa [Lib.byteCells_length] at this
    rw [hcell j hjl]
    simp only [Lib.byteCells, List.getElem?_map, List.getElem?_eq_getElem hjl, Option.map_some] at hj
    exact hj
  · intro u hu
    simp only [Lib.byteCells, List.mem_map] at hu
    obtain ⟨c, _, rfl⟩ := hu
    rfl
  · unfold maxLen; omega
  · omega
  · intro g cap w' ho' hg _ _
    refine h g cap w' ?_ (below_grown hown hB hg)
    rw [Lib.byteCells_append]
    exact ho'
end Go.Proofs.YtklhplhjnpdigaaDoor
