/-
  Plain facts on bodies in pieces: no program in sight.
-/
import Derived.Test.YtkhnkockdfmkgaaGreatDoorMathHex
namespace Go.Proofs.YtkhnkockdfmkgaaGreatDoor.M

/-- The code of a line's end at a place. -/
def endC (l : List UInt8) (k : Nat) : Int := if l.length ≤ k then 1 else if l.getD k 0 ≠ 13 then 400 else if l.length ≤ k + 1 then 1 else if l.getD (k + 1) 0 ≠ 10 then 400 else 0
/-- What stands ahead of the next byte 13. -/
def wordC (l : List UInt8) (a : Nat) : List UInt8 := (l.drop a).takeWhile (· != 13)
/-- The code of a size's line. -/
def szC (l : List UInt8) (a : Nat) : Int := if l.length ≤ a then 1 else if hexB (wordC l a) then endC l (a + (wordC l a).length) else 400
def szN (l : List UInt8) (a : Nat) : Nat := hexVal (wordC l a)
def szP (l : List UInt8) (a : Nat) : Nat := a + (wordC l a).length + 2
/-- The code of a piece, with so much room. -/
def pieceC (l : List UInt8) (a room : Nat) : Int := if szC l a ≠ 0 then szC l a else if room < szN l a then 413 else if l.length < szP l a + szN l a then 1 else endC l (szP l a + szN l a)
def pieceL (l : List UInt8) (a : Nat) : List UInt8 := (l.drop (szP l a)).take (szN l a)
/-- A body in pieces. -/
def getC : Nat → List UInt8 → Nat → List UInt8 → List UInt8 × Nat × Int
  | 0, _, _, _ => ([], 0, 413)
  | f + 1, l, a, body => if pieceC l a (200 - body.length) ≠ 0 then ([], 0, pieceC l a (200 - body.length)) else if szN l a = 0 then (body, szP l a + 2, 0) else getC f l (szP l a + szN l a + 2) (body ++ pieceL l a)
def chunksC (l : List UInt8) (a : Int) : List UInt8 × Nat × Int := if 0 ≤ a ∧ a ≤ l.length then getC 201 l a.toNat [] else ([], 0, 400)

theorem wordC_le (l : List UInt8) (a : Nat) : a + (wordC l a).length ≤ max a l.length := by
  have h : (wordC l a).length ≤ (l.drop a).length := (List.takeWhile_prefix _).length_le
  rw [List.length_drop] at h
  omega
theorem tw_step (m : List UInt8) : ∀ j (hj : j < m.length), j ≤ (m.takeWhile (· != 13)).length → m[j] ≠ 13 → j + 1 ≤ (m.takeWhile (· != 13)).length := by
  induction m with
  | nil => intro j hj; simp at hj
  | cons x m ih =>
    intro j hj h0 h1
    cases j with
    | zero =>
      have hx : (x != 13) = true := by rw [bne_iff_ne]; exact h1
      simp [hx]
    | succ j =>
      by_cases hx : (x != 13) = true
      · simp only [List.takeWhile_cons, hx, if_true, List.length_cons] at h0 ⊢
        have := ih j (by simpa using hj) (by omega) (by simpa using h1)
        omega
      · simp [hx] at h0
theorem tw_stop (m : List UInt8) : ∀ j (hj : j < m.length), j ≤ (m.takeWhile (· != 13)).length → m[j] = 13 → (m.takeWhile (· != 13)).length = j := by
  induction m with
  | nil => intro j hj; simp at hj
  | cons x m ih =>
    intro j hj h0 h1
    cases j with
    | zero =>
      have hx : ¬ (x != 13) = true := by rw [bne_iff_ne]; intro h; exact h h1
      simp [hx]
    | succ j =>
      by_cases hx : (x != 13) = true
      · simp only [List.takeWhile_cons, hx, if_true, List.length_cons] at h0 ⊢
        have := ih j (by simpa using hj) (by omega) (by simpa using h1)
        omega
      · simp [hx] at h0
theorem drop_at {l : List UInt8} {a j : Nat} (h : a + j < l.length) : (l.drop a)[j]'(by rw [List.length_drop]; omega) = l.getD (a + j) 0 := by
  rw [List.getElem_drop]; simp [List.getD, List.getElem?_eq_getElem h]
/-- The word goes on; it ends. -/
theorem wordC_step {l : List UInt8} {a j : Nat} (h : a + j < l.length) (h0 : j ≤ (wordC l a).length) (h1 : l.getD (a + j) 0 ≠ 13) : j + 1 ≤ (wordC l a).length :=
  tw_step (l.drop a) j (by rw [List.length_drop]; omega) h0 (by rw [drop_at h]; exact h1)
theorem wordC_stop {l : List UInt8} {a j : Nat} (h : a + j < l.length) (h0 : j ≤ (wordC l a).length) (h1 : l.getD (a + j) 0 = 13) : (wordC l a).length = j :=
  tw_stop (l.drop a) j (by rw [List.length_drop]; omega) h0 (by rw [drop_at h]; exact h1)
theorem wordC_last {l : List UInt8} {a j : Nat} (ha : a ≤ l.length) (h : ¬ a + j < l.length) (h0 : j ≤ (wordC l a).length) : (wordC l a).length = j := by
  have := wordC_le l a
  omega
theorem wordC_take (l : List UInt8) (a : Nat) : (l.drop a).take (wordC l a).length = wordC l a := List.prefix_iff_eq_take.1 (List.takeWhile_prefix _) |>.symm
/-- Behind the word stands the end of all, or a byte 13. -/
theorem wordC_end {l : List UInt8} {a : Nat} (h : a + (wordC l a).length < l.length) : l.getD (a + (wordC l a).length) 0 = 13 := by
  by_cases e : l.getD (a + (wordC l a).length) 0 = 13
  · exact e
  · have := wordC_step h (Nat.le_refl _) e
    omega
theorem szC_long {l : List UInt8} {a : Nat} (ha : a ≤ l.length) (h : 5 ≤ (wordC l a).length) : szC l a = 400 := by
  have h1 := wordC_le l a
  have : ¬ l.length ≤ a := by omega
  simp [szC, this, hexB]
  intro _ h2
  omega
end Go.Proofs.YtkhnkockdfmkgaaGreatDoor.M
