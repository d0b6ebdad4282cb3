/-
  Plain facts on where a text is cut: no program in sight.
-/
import Derived.Test.YtkhnkockdfmkgaaGreatDoorMathGet
namespace Go.Proofs.YtkhnkockdfmkgaaGreatDoor.M

theorem cut1_idx (c : UInt8) : ∀ t : List UInt8, (Lib.index t [c] = -1 ∧ cut1 c t = none) ∨ ∃ i : Nat, Lib.index t [c] = i ∧ i + 1 ≤ t.length ∧ cut1 c t = some (t.take i, t.drop (i + 1)) := by
  intro t
  induction t with
  | nil => left; exact ⟨rfl, rfl⟩
  | cons x r ih =>
    unfold Lib.index
    rw [cut1]
    by_cases hx : x = c
    · right
      refine ⟨0, ?_, by simp, ?_⟩
      · subst hx; simp [List.isPrefixOf]
      · rw [if_pos hx]; simp
    · have hp : List.isPrefixOf [c] (x :: r) = false := by simp [List.isPrefixOf]; exact fun e => hx e.symm
      rw [hp, if_neg hx]
      rcases ih with ⟨h1, h2⟩ | ⟨i, h1, h2, h3⟩
      · left
        rw [h1, h2]
        exact ⟨rfl, rfl⟩
      · right
        refine ⟨i + 1, ?_, by simp; omega, ?_⟩
        · rw [h1]
          have : ((i : Int) == -1) = false := by rw [beq_eq_false_iff_ne]; omega
          simp [this]
        · rw [h3]; simp
theorem cut2_idx : ∀ t : List UInt8, (Lib.index t [13, 10] = -1 ∧ cut2 t = none) ∨ ∃ i : Nat, Lib.index t [13, 10] = i ∧ i + 2 ≤ t.length ∧ cut2 t = some (t.take i, t.drop (i + 2)) := by
  intro t
  induction t with
  | nil => left; exact ⟨rfl, rfl⟩
  | cons x r ih =>
    unfold Lib.index
    rw [cut2]
    by_cases hx : x = 13 ∧ r.head? = some 10
    · right
      obtain ⟨h1, h2⟩ := hx
      cases r with
      | nil => simp at h2
      | cons y q =>
        simp at h2
        subst h1 h2
        exact ⟨0, by simp [List.isPrefixOf], by simp, by simp⟩
    · have hp : List.isPrefixOf [13, 10] (x :: r) = false := by
        cases r with
        | nil => simp [List.isPrefixOf]
        | cons y q =>
          simp only [List.head?_cons, Option.some.injEq] at hx
          rw [Bool.eq_false_iff]
          intro e
          simp [List.isPrefixOf] at e
          exact hx ⟨e.1.symm, e.2.symm⟩
      rw [hp, if_neg hx]
      rcases ih with ⟨h1, h2⟩ | ⟨i, h1, h2, h3⟩
      · left
        rw [h1, h2]
        exact ⟨rfl, rfl⟩
      · right
        refine ⟨i + 1, ?_, by simp; omega, ?_⟩
        · rw [h1]
          have : ((i : Int) == -1) = false := by rw [beq_eq_false_iff_ne]; omega
          simp [this]
        · rw [h3]; simp
/-- What stands ahead of a stop, and behind it. -/
def cutS (sep t : List UInt8) : Option (List UInt8 × List UInt8) := if 0 ≤ Lib.index t sep then some (t.take (Lib.index t sep).toNat, t.drop ((Lib.index t sep).toNat + sep.length)) else none
theorem cutS_one (c : UInt8) (t : List UInt8) : cutS [c] t = cut1 c t := by
  unfold cutS
  rcases cut1_idx c t with ⟨h1, h2⟩ | ⟨i, h1, _, h3⟩
  · rw [h1, h2]; rfl
  · rw [h1, h3, if_pos (by omega), Int.toNat_natCast]; rfl
theorem cutS_two (t : List UInt8) : cutS [13, 10] t = cut2 t := by
  unfold cutS
  rcases cut2_idx t with ⟨h1, h2⟩ | ⟨i, h1, _, h3⟩
  · rw [h1, h2]; rfl
  · rw [h1, h3, if_pos (by omega), Int.toNat_natCast]; rfl
theorem cutS_len {sep t a b : List UInt8} (h : cutS sep t = some (a, b)) : a.length + sep.length + b.length = t.length := by
  unfold cutS at h
  split at h
  · rename_i h0
    have hr := Lib.index_room t sep h0
    cases h
    rw [List.length_take, List.length_drop]
    omega
  · cases h
end Go.Proofs.YtkhnkockdfmkgaaGreatDoor.M
