/-
  Heads as the row hands them in.
-/
import Derived.Test.YthcaedgegmnopaaDoorHeads
import Derived.Deep.SlicePairs
import Derived.OpenShut
namespace Go.Proofs.YthcaedgegmnopaaDoor
open Go.RowKit Go.ChangeShapes Go.WideShapes M
set_option linter.unusedVariables false

theorem pick_list {α : Type} {p : Nat → α → Prop} : ∀ {len : Nat}, (∀ i, i < len → ∃ q, p i q) → ∃ hs : List α, hs.length = len ∧ ∀ j (hj : j < hs.length), p j hs[j] := by
  intro len
  induction len with
  | zero => intro _; exact ⟨[], rfl, fun j hj => absurd hj (Nat.not_lt_zero _)⟩
  | succ k ih =>
    intro each
    obtain ⟨hs, hlen, hq⟩ := ih (fun i hi => each i (by omega))
    obtain ⟨q, hqk⟩ := each k (by omega)
    refine ⟨hs ++ [q], by simp [hlen], fun j hj => ?_⟩
    by_cases e : j < hs.length
    · rw [List.getElem_append_left e]; exact hq j e
    · have : j = k := by simp [hlen] at hj; omega
      subst this
      rw [List.getElem_append_right (by omega)]
      simp only [hlen, Nat.sub_self, List.getElem_cons_zero]
      exact hqk

section
variable {H : Type} {enc : TypeId × Value → H} {w : World} {spare : Nat → Bool} {held : Bool}

theorem heads_of_open {fuel : Nat} {v : Value} {x : DataW H × List MemPlace} (h : DataW.trod enc Tryd.prog w 0 spare held fuel 36 [v] = some x) :
    ∃ (a : Option Addr) (hs : List Hd) (cap : Nat), v = .slice a hs.length cap ∧ Hds w w.heap.size a hs ∧ ShortH hs ∧ hs.length ≤ maxLen := by
  rcases Go.Deep.open_slice_pairs Tryd.underlying36 Tryd.underlying92 (by kernel_rfl) rfl rfl (by kernel_rfl) (by kernel_rfl) h with ⟨hcs, _⟩ | ⟨x, len, cap, m, n, V0, V1, D0, D1, P0, P1, hcs, _, hl, hm, hmm, _, hall⟩
  · simp at hcs
    exact ⟨none, [], 0, by simpa using hcs, fun h => absurd h (Nat.lt_irrefl _), (fun _ h => by cases h), Nat.zero_le _⟩
  · simp at hcs
    subst hcs
    have hlm : len ≤ m := by rw [hmm]; split <;> omega
    have each : ∀ i, i < len → ∃ q : Hd, w.cell? (x.add (i * 2)) = some (.string q.1) ∧ w.cell? (x.add (i * 2 + 1)) = some (.string q.2) ∧ q.1.size ≤ maxLen ∧ q.2.size ≤ maxLen := by
      intro i hi
      obtain ⟨c0, c1, t0, t1⟩ := hall i (by omega)
      have t0' : DataW.trod enc Tryd.prog w 0 spare held n 9 [V0 i] = some (D0 i, P0 i) := t0
      have t1' : DataW.trod enc Tryd.prog w 0 spare held n 9 [V1 i] = some (D1 i, P1 i) := t1
      obtain ⟨s0, e0, _, w0⟩ := DataW.trod_string Tryd.underlying9 t0'
      obtain ⟨s1, e1, _, w1⟩ := DataW.trod_string Tryd.underlying9 t1'
      simp at e0 e1
      rw [e0] at c0
      rw [e1] at c1
      exact ⟨(s0, s1), c0, c1, w0, w1⟩
    obtain ⟨hs, hlen, hq⟩ := pick_list each
    refine ⟨some x, hs, cap, by rw [hlen], fun h0 => ?_, fun h hh => ?_, by omega⟩
    · obtain ⟨b, off, spot⟩ := x
      have hc := (hq 0 h0).1
      have hspot : spot = none := by simpa [Addr.add] using World.cell?_spot hc
      subst hspot
      have hb : b < w.heap.size := by
        have := World.block_lt_of_cell? w _ hc
        simpa [Addr.add] using this
      have e : ∀ n, (⟨b, off, none⟩ : Addr).add n = ⟨b, off + n, none⟩ := fun n => by unfold Addr.add; split <;> simp_all
      exact ⟨b, off, rfl, hb, fun j hj => ⟨by rw [← e]; exact (hq j hj).1, by rw [Nat.add_assoc, ← e]; exact (hq j hj).2.1⟩⟩
    · obtain ⟨j, hj, rfl⟩ := List.mem_iff_getElem.1 hh
      exact (hq j hj).2.2
end
end Go.Proofs.YthcaedgegmnopaaDoor
