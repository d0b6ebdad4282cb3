/-
  'append' of a head in a region that draws; lists of texts that were just built.
-/
import Derived.Test.YtanebchmeaomgaaGreatDoorDrawHds
import Derived.Laws.IdiomStrings
import Derived.Deep.OwnRows
import Derived.Deep.RegionLaw
namespace Go.Proofs.YtanebchmeaomgaaGreatDoor
open Go.RowKit M
set_option linter.unusedVariables false

theorem grown_cell {W W' : World} {N b o : Nat} {v : Value} (hg : W.grownBy W' (some N)) (hb : N < b) (hl : b < W.heap.size) (h : W.cell? ⟨b, o, none⟩ = some v) : W'.cell? ⟨b, o, none⟩ = some v :=
  (World.cell?_of_block (a := ⟨b, o, none⟩) (hg.block b hl (by simp; omega))).trans h
theorem lay4 {W : World} {b : Nat} {x0 x1 x2 x3 : ByteArray} (h0 : W.cell? ⟨b, 0, none⟩ = some (.string x0)) (h1 : W.cell? ⟨b, 1, none⟩ = some (.string x1)) (h2 : W.cell? ⟨b, 2, none⟩ = some (.string x2)) (h3 : W.cell? ⟨b, 3, none⟩ = some (.string x3)) :
    ∀ j, j < 4 → W.cell? ⟨b, j, none⟩ = some (.string ([x0, x1, x2, x3].getD j ByteArray.empty))
  | 0, _ => h0
  | 1, _ => h1
  | 2, _ => h2
  | 3, _ => h3
  | _ + 4, h => absurd h (by omega)
theorem lay3 {W : World} {b : Nat} {x0 x1 x2 : ByteArray} (h0 : W.cell? ⟨b, 0, none⟩ = some (.string x0)) (h1 : W.cell? ⟨b, 1, none⟩ = some (.string x1)) (h2 : W.cell? ⟨b, 2, none⟩ = some (.string x2)) :
    ∀ j, j < 3 → W.cell? ⟨b, j, none⟩ = some (.string ([x0, x1, x2].getD j ByteArray.empty))
  | 0, _ => h0
  | 1, _ => h1
  | 2, _ => h2
  | _ + 3, h => absurd h (by omega)
/-- 'append' of a head, as one step of a region that draws. -/
theorem step_append_head {ops : Array Oper} {o : Oper} {a : Act} {W : World} {K : Act → World → Prop} {Q : Exit → Act → World → Prop} {E : Prop} (hg : o.guard = none) (s x : Operand)
    (ho : o.op = .call { callee := .builtin .append, args := #[s, x], argTypes := #[37, 37] })
    (B g n c : Nat) (l : List Hd) (hs : a.eval s = .slice (some ⟨g, 0, none⟩) n c) (hown : W.ownsRow B 82 2 (.slice (some ⟨g, 0, none⟩) n c) n (hdCells l))
    (N : Nat) (h : Hd) (hx : a.eval x = .slice (some ⟨N, 0, none⟩) 1 1) (hc0 : W.cell? ⟨N, 0, none⟩ = some (.string h.1)) (hc1 : W.cell? ⟨N, 1, none⟩ = some (.string h.2)) (hlen : n + 1 ≤ 1099511627776) (hB : B ≤ W.heap.size)
    (hK : ∀ g' c' w', w'.ownsRow B 82 2 (.slice (some ⟨g', 0, none⟩) (n + 1) c') (n + 1) (hdCells (l ++ [h])) → W.grownBy w' (some g) → K (a.put o.dst (.slice (some ⟨g', 0, none⟩) (n + 1) c')) w') :
    if Region.wanted o (yielded ops a.tmps) = true then Oper.wp Tryz.prog o a W K Q else E := by
  have hw : Region.wanted o (yielded ops a.tmps) = true := by simp [Region.wanted, hg]
  rw [if_pos hw]
  obtain ⟨i0, hi, hz0, hz1, hz2⟩ := info_parts infoHd
  refine wp_append_own W s x 37 ho B 82 i0 _ 2 32 Tryz.underlying37 hi hz0 hz1 hz2 rfl (by decide) _ n _ hs hown ⟨N, 0, none⟩ 1 1 [.string h.1, .string h.2] hx rfl ?_ ?_ ?_ ?_ hB ?_
  · intro j u hj
    have e : ∀ k, (⟨N, 0, none⟩ : Addr).add k = ⟨N, k, none⟩ := fun k => by unfold Addr.add; split <;> simp_all
    rw [e]
    match j, hj with
    | 0, hj => simp at hj; subst hj; exact hc0
    | 1, hj => simp at hj; subst hj; exact hc1
  · intro u hu; simp at hu; rcases hu with rfl | rfl <;> rfl
  · unfold maxLen; omega
  · omega
  · intro v' w' ho' hg' _
    obtain ⟨g', c', rfl⟩ : ∃ g' c', v' = .slice (some ⟨g', 0, none⟩) (n + 1) c' := by
      rcases ho'.2 with ⟨_, h0⟩ | ⟨g, cap, cur, hv, _⟩
      · omega
      · exact ⟨g, cap, hv⟩
    refine hK g' c' w' ?_ hg'
    rw [hdCells_append]
    exact ho'
end Go.Proofs.YtanebchmeaomgaaGreatDoor
