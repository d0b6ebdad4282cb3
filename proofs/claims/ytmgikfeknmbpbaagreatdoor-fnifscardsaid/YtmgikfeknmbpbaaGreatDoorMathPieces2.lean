/-
  Names ahead in a text, by places: no program in sight.
-/
import Derived.Test.YtmgikfeknmbpbaaGreatDoorMathPieces
import Derived.Test.YtmgikfeknmbpbaaGreatDoorMathMark2
namespace Go.Proofs.YtmgikfeknmbpbaaGreatDoor.M

theorem nmL_all (l : List UInt8) : ∀ x ∈ nmL l, nameP x = true := by
  induction l with
  | nil => intro x hx; simp [nmL] at hx
  | cons b l ih =>
    intro x hx
    cases h : nameP b
    · simp [nmL, h] at hx
    · have e : nmL (b :: l) = b :: nmL l := by simp [nmL, h]
      rw [e] at hx
      rcases List.mem_cons.1 hx with rfl | hx
      · exact h
      · exact ih x hx
theorem nmR_head {l q : List UInt8} {c : UInt8} (h : nmR l = c :: q) : nameP c = false := by
  induction l with
  | nil => simp [nmR] at h
  | cons b l ih =>
    cases hb : nameP b
    · have e : nmR (b :: l) = b :: l := by simp [nmR, hb]
      rw [e] at h
      rw [← (List.cons.inj h).1]; exact hb
    · have e : nmR (b :: l) = nmR l := by simp [nmR, hb]
      rw [e] at h
      exact ih h
theorem nm_len (l : List UInt8) : (nmL l).length + (nmR l).length = l.length := by
  have := congrArg List.length (nm_from l)
  rwa [List.length_append] at this
theorem nm_get (l : List UInt8) (j : Nat) (hj : j < l.length) (hle : j ≤ (nmL l).length) : nameP l[j] = decide (j < (nmL l).length) := by
  have e := nm_from l
  by_cases h : j < (nmL l).length
  · rw [decide_eq_true h]
    have h2 : l[j] = (nmL l)[j] := by
      have : (nmL l ++ nmR l)[j]'(by rw [e]; exact hj) = (nmL l)[j] := List.getElem_append_left h
      rw [← this]; congr 1; exact e.symm
    rw [h2]
    exact nmL_all l _ (List.getElem_mem h)
  · rw [decide_eq_false h]
    cases hf : nmR l with
    | nil =>
      have := nm_len l
      rw [hf] at this
      simp at this
      omega
    | cons x q =>
      have : (nmL l ++ nmR l)[j]'(by rw [e]; exact hj) = x := by
        rw [List.getElem_append_right (by omega)]
        have hj0 : j - (nmL l).length = 0 := by omega
        simp [hj0, hf]
      have h2 : l[j] = x := by rw [← this]; congr 1; exact e.symm
      rw [h2]
      exact nmR_head hf
theorem nm_at (s : ByteArray) (a k : Nat) (ha : a ≤ k) (hk : k < s.size) (hle : k ≤ a + (nmL (s.data.toList.drop a)).length) : nameP s[k] = decide (k < a + (nmL (s.data.toList.drop a)).length) := by
  have el : s.data.toList.length = s.size := Array.length_toList
  have h := nm_get (s.data.toList.drop a) (k - a) (by rw [List.length_drop]; omega) (by omega)
  have h2 : (s.data.toList.drop a)[k - a]'(by rw [List.length_drop]; omega) = s[k] := by
    rw [List.getElem_drop]
    have : a + (k - a) = k := by omega
    simp only [this]
    rfl
  rw [h2] at h
  rw [h, Bool.eq_iff_iff]
  simp
  omega
theorem nm_take (s : ByteArray) (a : Nat) : (s.extract a (a + (nmL (s.data.toList.drop a)).length)).data.toList = nmL (s.data.toList.drop a) := by
  rw [extract_list, show a + (nmL (s.data.toList.drop a)).length - a = (nmL (s.data.toList.drop a)).length by omega]
  have e := nm_from (s.data.toList.drop a)
  generalize nmL (s.data.toList.drop a) = p at e ⊢
  rw [← e]
  simp
theorem nm_drop (s : ByteArray) (a : Nat) : s.data.toList.drop (a + (nmL (s.data.toList.drop a)).length) = nmR (s.data.toList.drop a) := by
  have e := nm_from (s.data.toList.drop a)
  rw [← List.drop_drop]
  generalize nmL (s.data.toList.drop a) = p at e ⊢
  generalize nmR (s.data.toList.drop a) = q at e ⊢
  rw [← e]
  simp
theorem nm_size (s : ByteArray) (a : Nat) (ha : a ≤ s.size) : a + (nmL (s.data.toList.drop a)).length ≤ s.size := by
  have el : s.data.toList.length = s.size := Array.length_toList
  have h := nm_len (s.data.toList.drop a)
  rw [List.length_drop] at h
  omega

/-- Pieces as they are read. -/
def CanonP (p : Pce) : Prop :=
  ((p.k = 1 ∨ p.k = 3) ∧ p.s = noB) ∨ (p.k = 2 ∧ p.ns = noB ∧ p.has = false ∧ p.s = noB) ∨ (p.k = 4 ∧ p.name = noB ∧ p.ns = noB ∧ p.has = false)
theorem markL_canon {l q : List UInt8} {p : Pce} (h : markL l = some (p, q)) : CanonP p := by
  unfold markL at h
  split at h
  · unfold closeL at h
    split at h
    · obtain ⟨rfl, _⟩ := Prod.mk.inj (Option.some.inj h)
      exact .inr (.inl ⟨rfl, rfl, rfl, rfl⟩)
    · cases h
  split at h
  · unfold openL at h
    split at h
    · split at h
      · unfold endM at h
        split at h
        · obtain ⟨rfl, _⟩ := Prod.mk.inj (Option.some.inj h)
          exact .inl ⟨.inr rfl, rfl⟩
        split at h
        · obtain ⟨rfl, _⟩ := Prod.mk.inj (Option.some.inj h)
          exact .inl ⟨.inl rfl, rfl⟩
        · cases h
      · cases h
    · cases h
  · unfold textL7 at h
    split at h
    · obtain ⟨rfl, _⟩ := Prod.mk.inj (Option.some.inj h)
      exact .inr (.inr ⟨rfl, rfl, rfl, rfl⟩)
    · cases h
end Go.Proofs.YtmgikfeknmbpbaaGreatDoor.M
