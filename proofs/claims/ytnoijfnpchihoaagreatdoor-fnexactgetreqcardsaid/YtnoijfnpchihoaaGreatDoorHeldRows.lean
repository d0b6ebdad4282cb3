/-
  Rows of heads that the call owns: marked, and looked at.
-/
import Derived.Test.YtnoijfnpchihoaaGreatDoorHeldHeads
import Derived.Test.YtnoijfnpchihoaaGreatDoorAllOf
namespace Go.Proofs.YtnoijfnpchihoaaGreatDoor
open Go.RowKit M
set_option linter.unusedVariables false

/-- The heads of this slice are marked. -/
def HeldV (w : World) (v : Value) (n : Nat) : Prop := (v = .slice none 0 0 ∧ n = 0) ∨ ∃ g c, v = .slice (some ⟨g, 0, none⟩) n c ∧ RowM w g (n * 2)
theorem HeldV.next {w w' : World} {v : Value} {n : Nat} (h : HeldV w v n) (hb : Below w.heap.size w w') : HeldV w' v n := by
  rcases h with h | ⟨g, c, e, h⟩
  · exact .inl h
  · exact .inr ⟨g, c, e, h.next hb⟩
theorem RowsH.same {w w' : World} {B : Nat} {v : Value} {hs : List Hd} (h : RowsH w B v hs) (hb : ∀ k, B ≤ k → k < w.heap.size → w'.heap[k]? = w.heap[k]?) : RowsH w' B v hs := by
  refine ⟨h.1, ?_⟩
  rcases h.2 with h | ⟨g, cap, cur, e, hB, hh, hr⟩
  · exact .inl h
  · exact .inr ⟨g, cap, cur, e, hB, (hb g hB (Array.getElem?_eq_some_iff.1 hh).1).trans hh, hr⟩
theorem row_of_own {w : World} {B g n cap : Nat} {hs : List Hd} (h : RowsH w B (.slice (some ⟨g, 0, none⟩) n cap) hs) : n = hs.length ∧ RowC w g (hs.length * 2) ∧ B ≤ g := by
  rcases h.2 with ⟨h, _⟩ | ⟨g', cap', cur, e, hB, hh, h1, h2, h3, h4⟩
  · cases h
  · cases e
    refine ⟨rfl, ⟨(Array.getElem?_eq_some_iff.1 hh).1, fun j hj => ?_⟩, hB⟩
    have hj2 : j < cur.size := by
      have : hs.length * 2 ≤ cap * 2 := Nat.mul_le_mul_right _ h1
      omega
    refine ⟨⟨cur[j], ?_⟩, ?_⟩
    · unfold World.cell?; rw [hh]; simp [Array.getElem?_eq_getElem hj2]
    · unfold World.frozen?; rw [hh]; simp
theorem markV (v : Value) (hs : List Hd) (B : Nat) (w : World) (h : RowsH w B v hs) (hn : hs.length ≤ 1048576) :
    Calls Tryz.prog 66 #[v, .int .i64 1] w fun e w' => e = .returned (.int .i64 (1 + (hs.length : Int) * 2)) ∧ HeldV w' v hs.length ∧ w.grownBy w' v.ownBlock := by
  rcases h.2 with ⟨h1, h0⟩ | ⟨g, cap, cur, e, hB, hh, hr⟩
  · subst h1
    refine (markHeadS_none none 0 w).mono ?_
    rintro e w' ⟨rfl, rfl⟩
    rw [h0]
    exact ⟨rfl, .inl ⟨rfl, rfl⟩, rfl, rfl, rfl, Nat.le_refl _, fun _ _ _ => rfl⟩
  · subst e
    obtain ⟨_, hrow, _⟩ := row_of_own h
    refine (markHeadS_marks g hs.length cap w hrow hn).mono ?_
    rintro e w' ⟨rfl, hm, hg⟩
    exact ⟨rfl, .inr ⟨g, cap, rfl, hm⟩, hg⟩
theorem heldV (v : Value) (n : Nat) (w : World) (h : HeldV w v n) (hn : n ≤ 1048576) :
    Calls Tryz.prog 67 #[v, .int .i64 1] w fun e w' => e = .returned (.int .i64 (1 + (n : Int) * 2)) ∧ Below w.heap.size w w' := by
  rcases h with ⟨rfl, rfl⟩ | ⟨g, c, rfl, hm⟩
  · refine (heldHeadS_none none 0 w).mono ?_
    rintro e w' ⟨rfl, rfl⟩
    exact ⟨rfl, Below.refl _ _⟩
  · exact heldHeadS_any g n c hn w hm
end Go.Proofs.YtnoijfnpchihoaaGreatDoor
