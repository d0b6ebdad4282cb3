/-
  Plain facts on where a head ends: no program in sight.
-/
import Derived.Lib.Index
import Derived.Lib.IndexMore
namespace Go.Proofs.YtkhnkockdfmkgaaGreatDoor.M

/-- Two line's ends. -/
def two4 : List UInt8 := [13, 10, 13, 10]
/-- The place behind the first two line's ends, one behind the other, among the first 400 bytes. -/
def heL (l : List UInt8) : Int := if 0 ≤ Lib.index (l.take 400) two4 then Lib.index (l.take 400) two4 + 4 else -1

theorem prefix_take (p m : List UInt8) : p.isPrefixOf m = decide (m.take p.length = p) := by
  rw [Bool.eq_iff_iff]
  simp only [List.isPrefixOf_iff_prefix, decide_eq_true_eq, List.prefix_iff_eq_take]
  exact eq_comm

theorem occ_at (l : List UInt8) (k : Nat) (h4 : k + 4 ≤ 400) : Lib.occAt (l.take 400) two4 k = decide ((l.drop k).take 4 = two4) := by
  unfold Lib.occAt
  rw [prefix_take]
  have e : ((l.take 400).drop k).take two4.length = (l.drop k).take 4 := by
    rw [List.drop_take, List.take_take]
    congr 1
    show min 4 (400 - k) = 4
    omega
  rw [e]

theorem occ_past (l : List UInt8) (k : Nat) (h : l.length < k + 4 ∨ 400 < k + 4) : Lib.occAt (l.take 400) two4 k = false := by
  unfold Lib.occAt
  rw [prefix_take, decide_eq_false_iff_not]
  intro e
  have := congrArg List.length e
  simp only [List.length_take, List.length_drop] at this
  have h4 : two4.length = 4 := rfl
  omega

theorem heL_at {l : List UInt8} {k : Nat} (h : k + 4 ≤ l.length) (h4 : k + 4 ≤ 400) (h0 : ∀ j, j < k → Lib.occAt (l.take 400) two4 j = false) (h1 : (l.drop k).take 4 = two4) : heL l = k + 4 := by
  have hi : Lib.index (l.take 400) two4 = k := Lib.index_first (by rw [List.length_take]; omega) (by rw [occ_at l k h4]; simp [h1]) h0
  unfold heL
  rw [hi, if_pos (by omega)]

theorem heL_none {l : List UInt8} {k : Nat} (h : ¬ (k + 3 < l.length ∧ k + 3 < 400)) (h0 : ∀ j, j < k → Lib.occAt (l.take 400) two4 j = false) : heL l = -1 := by
  have hi : Lib.index (l.take 400) two4 = -1 := Lib.index_none fun j _ => by
    by_cases e : j < k
    · exact h0 j e
    · exact occ_past l j (by omega)
  unfold heL
  rw [hi, if_neg (by omega)]

theorem two4_str (m : List UInt8) : ((⟨m.toArray⟩ : ByteArray).toList == [13, 10, 13, 10]) = decide (m = two4) := by
  rw [ByteArray.toList_eq]
  show (m.toArray.toList == two4) = _
  by_cases h : m = two4 <;> simp [h]

theorem two4_beq (m : List UInt8) : (m == [13, 10, 13, 10]) = decide (m = two4) := by
  show (m == two4) = _
  by_cases h : m = two4 <;> simp [h]

theorem heL_bd (l : List UInt8) : -1 ≤ heL l ∧ heL l ≤ 400 ∧ heL l ≤ l.length ∧ (heL l = -1 ∨ 4 ≤ heL l) := by
  unfold heL
  by_cases h : 0 ≤ Lib.index (l.take 400) two4
  · rw [if_pos h]
    obtain ⟨k, hk⟩ : ∃ k : Nat, Lib.index (l.take 400) two4 = k := ⟨_, (Int.toNat_of_nonneg h).symm⟩
    have hr := Lib.index_room (l.take 400) two4 h
    have h4 : two4.length = 4 := rfl
    have hle : k + 4 ≤ (l.take 400).length := by rw [hk, h4] at hr; omega
    rw [List.length_take] at hle
    rw [hk]
    omega
  · rw [if_neg h]
    omega
end Go.Proofs.YtkhnkockdfmkgaaGreatDoor.M
