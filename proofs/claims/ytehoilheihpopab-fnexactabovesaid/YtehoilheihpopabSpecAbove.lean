/-
  What spec.Above does.
-/
import Derived.Test.YtehoilheihpopabAppendS
import Derived.Test.YtehoilheihpopabHide
import Derived.Test.YtehoilheihpopabMathAbove
namespace Go.Proofs.Ytehoilheihpopab
open Go.RowKit M
set_option linter.unusedVariables false

/-- What a row of texts that the call owns holds, as a slice. -/
theorem owns_slice {w : World} {B n C : Nat} {v : Value} {ns : List ByteArray} (h : w.ownsRow B 9 1 v n (strCells ns)) (hn : ns.length = n) (hC : w.heap.size ≤ C) : ∃ a cap, v = .slice a n cap ∧ n ≤ cap ∧ cap ≤ maxLen ∧ Strs w C a ns := by
  subst hn
  rcases h.2 with ⟨rfl, h0⟩ | ⟨g, cap, cur, rfl, _, _, h1, h2, _⟩
  · exact ⟨none, 0, by rw [h0], by omega, Nat.zero_le _, fun hh => by omega⟩
  · refine ⟨_, cap, rfl, h1, h2, fun _ => ⟨g, 0, rfl, Nat.lt_of_lt_of_le (h.lt g rfl).2 hC, fun j hj => ?_⟩⟩
    rw [Nat.zero_add, h.cellAt j (by omega)]
    simp [strCells, List.getElem?_eq_getElem hj]

set_option maxHeartbeats 400000 in
theorem specAbove_any (g : Nat) (ss : List ByteArray) (cap B : Nat) (w : World) (h : Strs w B (some ⟨g, 0, none⟩) ss) (hB : B ≤ w.heap.size) (hl : ss.length ≤ 1048576) (hc : ss.length ≤ cap) (hc' : cap ≤ maxLen) :
    Calls Try.prog 15 #[.slice (some ⟨g, 0, none⟩) ss.length cap] w fun e w' => (∃ a2 c2, e = .returned (.slice a2 (aboveL ss).length c2) ∧ (aboveL ss).length ≤ c2 ∧ c2 ≤ maxLen ∧ Strs w' w'.heap.size a2 (aboveL ss)) ∧ Below w.heap.size w w' := by
  unfold maxLen at hc'
  by_cases h0 : ss.length = 0
  · have he : aboveL ss = [] := by rw [List.length_eq_zero_iff.1 h0]; rfl
    rw [he]
    rw [h0] at hc ⊢
    go_enter Try.func15, Try.ntmps15
    go_wp2
    go_ret
    exact ⟨⟨_, _, rfl, by simp, by unfold maxLen; omega, fun hh => absurd hh (by simp)⟩, (Below.refl _ _).alloc (Nat.le_refl _) _⟩
  · obtain ⟨n, hn⟩ : ∃ n, ss.length = n + 1 := ⟨ss.length - 1, by omega⟩
    have hn2 : n = (aboveL ss).length := by rw [aboveL_len, hn]; rfl
    have hcells : ∀ j (hj : j < (aboveL ss).length), w.cell? ⟨g, j, none⟩ = some (.string (aboveL ss)[j]) := by
      intro j hj
      obtain ⟨b, o, e, _, hc⟩ := (h.take (ss.length - 1)) (show 0 < (aboveL ss).length by omega)
      cases e
      have := hc j hj
      rw [Nat.zero_add] at this
      exact this
    have hgl : 0 < n → g < w.heap.size := by
      intro _
      obtain ⟨b, o, e, hb, _⟩ := h (by omega)
      cases e
      omega
    rw [← hn2, hn]
    have hl2 : n + 1 ≤ 1048576 := by omega
    have hc2 : n + 1 ≤ cap := by omega
    have HN := hide hn2
    have HC := hide hcells
    have HG := hide hgl
    clear hn2 hn hcells h0 hgl
    go_enter Try.func15, Try.ntmps15
    go_wp2_with (at_builtin; refine wp_append_all rfl _ _ rfl w.heap.size _ (aboveL ss) n HN.out rfl (World.ownsRow_made w #[] 0 (Nat.le_refl _) (by decide) rfl) g cap rfl ?c1 ?c2 ?c3 ?_)
    case c1 => intro j hj; rw [World.cell?_alloc_past _ g j (HG.out (by have := HN.out; omega))]; exact HC.out j hj
    case c2 => omega
    case c3 => simp
    intro v' w4 ho4 hb4
    obtain ⟨a2, c2, rfl, h1, h2, hst⟩ := owns_slice ho4 HN.out.symm (Nat.le_refl _)
    have HB := hide (((Below.refl w.heap.size w).alloc (Nat.le_refl _) (Obj.cells #[] 9)).trans hb4)
    clear hb4
    go_wp2
    go_ret
    exact ⟨⟨_, _, rfl, h1, h2, hst⟩, HB.out⟩
end Go.Proofs.Ytehoilheihpopab
