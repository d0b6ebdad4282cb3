/-
  Locks, as the row hands them in.
-/
import Derived.Test.YtackgogcpdbnlaaLocks
import Derived.Test.YtackgogcpdbnlaaAgg5
import Derived.Test.YtackgogcpdbnlaaRows
import Derived.Lib.SmallJoins
import Derived.Deep.Slices
import Derived.OpenShut
import Derived.SliceStrings
namespace Go.Proofs.Ytackgogcpdbnlaa
open Go.RowKit Go.ChangeShapes Go.WideShapes Go.Deep M
set_option linter.unusedVariables false

theorem pick_lk {α : Type} {p : Nat → α → Prop} : ∀ {len : Nat}, (∀ i, i < len → ∃ q, p i q) → ∃ hs : List α, hs.length = len ∧ ∀ j (hj : j < hs.length), p j hs[j] := by
  intro len
  induction len with
  | zero => intro _; exact ⟨[], rfl, fun j hj => absurd hj (Nat.not_lt_zero _)⟩
  | succ k ih =>
    intro each
    obtain ⟨hs, hlen, hq⟩ := ih (fun i hi => each i (by omega))
    obtain ⟨q, hqk⟩ := each k (by omega)
    refine ⟨hs ++ [q], by simp [hlen], fun j hj => ?_⟩
    by_cases e : j < hs.length
    · rw [List.getElem_append_left e]; exact hq j e
    · have : j = k := by simp [hlen] at hj; omega
      subst this
      rw [List.getElem_append_right (by omega)]
      simp only [hlen, Nat.sub_self, List.getElem_cons_zero]
      exact hqk
theorem add_atL (b o j : Nat) : (⟨b, o, none⟩ : Addr).add j = ⟨b, o + j, none⟩ := by unfold Addr.add; split <;> simp_all

section
variable {H : Type} {enc : TypeId × Value → H} {w : World} {spare : Nat → Bool} {held : Bool}

/-- A list of texts within a lock. -/
theorem strs_in_openL {fuel : Nat} {v : Value} {x : DataW H × List MemPlace} (h : DataW.trod enc Try.prog w 0 spare held fuel 25 [v] = some x) :
    ∃ (a : Option Addr) (ss : List ByteArray) (cap : Nat), v = .slice a ss.length cap ∧ Strs w w.heap.size a ss ∧ Short ss ∧ ss.length ≤ cap ∧ cap ≤ maxLen ∧ (a = none → cap = 0) := by
  rcases open_strings Try.underlying25 Try.underlying9 (by kernel_rfl) h with ⟨hcs, _⟩ | ⟨x, l, c, zs, hcs, _, hl, hm, hz, _, hcell, hwz⟩
  · simp at hcs
    exact ⟨none, [], 0, by simpa using hcs, fun h => absurd h (Nat.lt_irrefl _), (fun _ h => by cases h), Nat.zero_le _, Nat.zero_le _, fun _ => rfl⟩
  · simp at hcs
    subst hcs
    have hz' : l ≤ zs.length := by rw [hz]; split <;> omega
    have hlen : (zs.take l).length = l := by rw [List.length_take]; omega
    refine ⟨some x, zs.take l, c, by rw [hlen], fun h0 => ?_, fun s hs => hwz s (List.mem_of_mem_take hs), by omega, hm, fun e => by cases e⟩
    obtain ⟨b, off, spot⟩ := x
    have hc := hcell 0 (by omega)
    have hspot : spot = none := by simpa [Addr.add] using World.cell?_spot hc
    subst hspot
    have hb : b < w.heap.size := by
      have := World.block_lt_of_cell? w _ hc
      simpa [Addr.add] using this
    refine ⟨b, off, rfl, hb, fun j hj => ?_⟩
    have h1 := hcell j (by omega)
    rw [add_atL] at h1
    rw [h1, List.getElem_take]
    simp [List.getD, List.getElem?_eq_getElem (show j < zs.length by omega)]


set_option maxRecDepth 100000 in
theorem lock_of_open {r : Reach} {b0 : Nat} {v : Value} {d : DataW H} {p : List MemPlace} (hv : Value.okWide Try.prog w r b0 43 v) (h : DataW.Trod enc Try.prog w 0 spare held 43 v d p) :
    ∃ (a : Option Addr) (q : Lk) (cap : Nat), v = .agg #[.int .i64 q.tk, .slice a q.pa.length cap, .bool q.de, .bool q.sh, .int .i64 q.un] ∧ LkIn w w.heap.size q a cap ∧ ShortLk q := by
  obtain ⟨v0, v1, v2, v3, v4, y0, y1, y2, y3, y4, n, rfl, h0, h1, h2, h3, h4⟩ := agg5 Try.underlying43 (by kernel_rfl) (by kernel_rfl) hv h
  have g0 : DataW.trod enc Try.prog w 0 spare held n 3 [v0] = some y0 := h0
  have g1 : DataW.trod enc Try.prog w 0 spare held n 25 [v1] = some y1 := h1
  have g2 : DataW.trod enc Try.prog w 0 spare held n 4 [v2] = some y2 := h2
  have g3 : DataW.trod enc Try.prog w 0 spare held n 4 [v3] = some y3 := h3
  have g4 : DataW.trod enc Try.prog w 0 spare held n 3 [v4] = some y4 := h4
  obtain ⟨z0, e0, _, _⟩ := DataW.trod_int Try.underlying3 g0
  obtain ⟨pa, ss, pc, e1, hp1, hp2, hp3, hp4, hp5⟩ := strs_in_openL g1
  obtain ⟨b2, e2, _⟩ := DataW.trod_bool Try.underlying4 g2
  obtain ⟨b3, e3, _⟩ := DataW.trod_bool Try.underlying4 g3
  obtain ⟨z4, e4, _, _⟩ := DataW.trod_int Try.underlying3 g4
  simp at e0 e2 e3 e4
  subst e0 e1 e2 e3 e4
  exact ⟨pa, ⟨z0, ss, b2, b3, z4⟩, pc, rfl, ⟨hp1, hp3, hp4, hp5⟩, ⟨Nat.le_trans hp3 hp4, hp2⟩⟩
end
end Go.Proofs.Ytackgogcpdbnlaa
