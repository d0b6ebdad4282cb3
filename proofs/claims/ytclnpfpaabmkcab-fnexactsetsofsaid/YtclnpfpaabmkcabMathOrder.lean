/-
  Plain facts on the order of texts and of lists of texts: no program in sight.
-/
import GoSem.Op.String
namespace Go.Proofs.Ytclnpfpaabmkcab.M

/-- Whether a text comes ahead of another. -/
def lessT (a b : ByteArray) : Bool := Op.bytesLess a.toList b.toList

theorem bytesLess_irr : ∀ l : List UInt8, Op.bytesLess l l = false
  | [] => by simp [Op.bytesLess]
  | a :: l => by
    have := bytesLess_irr l
    simp [Op.bytesLess, this]
theorem lessT_irr (a : ByteArray) : lessT a a = false := bytesLess_irr _

theorem bytesLess_asym : ∀ l r : List UInt8, Op.bytesLess l r = true → Op.bytesLess r l = false
  | [], [], h => by simp [Op.bytesLess] at h
  | [], b :: r, _ => by simp [Op.bytesLess]
  | a :: l, [], h => by simp [Op.bytesLess] at h
  | a :: l, b :: r, h => by
    have ih := bytesLess_asym l r
    simp only [Op.bytesLess, Bool.or_eq_true, Bool.and_eq_true, decide_eq_true_eq, beq_iff_eq, Bool.or_eq_false_iff, decide_eq_false_iff_not, Bool.and_eq_false_iff] at *
    rcases h with h | ⟨rfl, h⟩
    · refine ⟨fun h' => ?_, .inl ?_⟩
      · have h1 : a.toNat < b.toNat := h
        have h2 : b.toNat < a.toNat := h'
        omega
      · rw [beq_eq_false_iff_ne]; rintro rfl; exact absurd h (by have : ¬ b.toNat < b.toNat := Nat.lt_irrefl _; exact this)
    · exact ⟨by have : ¬ a.toNat < a.toNat := Nat.lt_irrefl _; exact this, .inr (ih h)⟩
theorem lessT_asym (a b : ByteArray) (h : lessT a b = true) : lessT b a = false := bytesLess_asym _ _ h

theorem bytesLess_tri : ∀ l r : List UInt8, Op.bytesLess l r = false → Op.bytesLess r l = false → l = r
  | [], [], _, _ => rfl
  | [], b :: r, h, _ => by simp [Op.bytesLess] at h
  | a :: l, [], _, h => by simp [Op.bytesLess] at h
  | a :: l, b :: r, h, h' => by
    have ih := bytesLess_tri l r
    simp only [Op.bytesLess, Bool.or_eq_false_iff, decide_eq_false_iff_not, Bool.and_eq_false_iff] at h h'
    have e : a = b := by
      have h1 : ¬ a.toNat < b.toNat := h.1
      have h2 : ¬ b.toNat < a.toNat := h'.1
      exact UInt8.toNat_inj.1 (by omega)
    subst e
    rcases h.2 with h1 | h1
    · simp at h1
    · rcases h'.2 with h2 | h2
      · simp at h2
      · rw [ih h1 h2]

/-- How two texts stand: -1, 0 or 1. -/
def cmpT (a b : ByteArray) : Int := if lessT a b then -1 else if a = b then 0 else 1
theorem cmpT_same (a : ByteArray) : cmpT a a = 0 := by unfold cmpT; rw [lessT_irr]; simp
theorem cmpT_zero (a b : ByteArray) (h : cmpT a b = 0) : a = b := by
  unfold cmpT at h
  by_cases h1 : lessT a b = true
  · rw [if_pos h1] at h; omega
  · rw [if_neg h1] at h
    by_cases h2 : a = b
    · exact h2
    · rw [if_neg h2] at h; omega
theorem cmpT_neg (a b : ByteArray) : decide (cmpT a b < 0) = lessT a b := by
  unfold cmpT
  cases h : lessT a b
  · by_cases h2 : a = b
    · simp [h2]
    · simp [h2]
  · simp

/-- Whether a list of texts comes ahead of another: text by text, a beginning ahead. -/
def lessL : List ByteArray → List ByteArray → Bool
  | [], [] => false
  | [], _ :: _ => true
  | _ :: _, [] => false
  | x :: a, y :: b => if x = y then lessL a b else lessT x y

theorem lessL_irr : ∀ l, lessL l l = false
  | [] => rfl
  | x :: a => by rw [lessL, if_pos rfl]; exact lessL_irr a
theorem lessL_asym : ∀ a b, lessL a b = true → lessL b a = false
  | [], [], h => by simp [lessL] at h
  | [], _ :: _, _ => by simp [lessL]
  | _ :: _, [], h => by simp [lessL] at h
  | x :: a, y :: b, h => by
    rw [lessL] at h ⊢
    by_cases e : x = y
    · subst e; rw [if_pos rfl] at *; exact lessL_asym a b h
    · rw [if_neg e] at h; rw [if_neg (fun e' => e e'.symm)]; exact lessT_asym _ _ h

theorem lessL_step {a b : List ByteArray} (k : Nat) (h1 : k < a.length) (h2 : k < b.length) (e : a[k] = b[k]) : lessL (a.drop k) (b.drop k) = lessL (a.drop (k + 1)) (b.drop (k + 1)) := by
  rw [List.drop_eq_getElem_cons h1, List.drop_eq_getElem_cons h2, lessL, if_pos e]
theorem lessL_at {a b : List ByteArray} (k : Nat) (h1 : k < a.length) (h2 : k < b.length) (e : ¬ a[k] = b[k]) : lessL (a.drop k) (b.drop k) = lessT a[k] b[k] := by
  rw [List.drop_eq_getElem_cons h1, List.drop_eq_getElem_cons h2, lessL, if_neg e]
theorem lessL_end {a b : List ByteArray} (k : Nat) (h : ¬ (k < a.length ∧ k < b.length)) (ha : k ≤ a.length) (hb : k ≤ b.length) : lessL (a.drop k) (b.drop k) = decide (a.length < b.length) := by
  by_cases h1 : k < a.length
  · have e : k = b.length := by omega
    subst e
    rw [List.drop_eq_getElem_cons h1, List.drop_of_length_le (Nat.le_refl _), lessL]
    have : ¬ a.length < b.length := by omega
    simp [this]
  · have e : k = a.length := by omega
    subst e
    rw [List.drop_of_length_le (Nat.le_refl _)]
    by_cases h2 : a.length < b.length
    · rw [List.drop_eq_getElem_cons h2, lessL]; simp [h2]
    · rw [List.drop_of_length_le (by omega), lessL]; simp [h2]
end Go.Proofs.Ytclnpfpaabmkcab.M
