/-
  Plain facts on how a text is read back, a byte at a time, by places: no program in sight.
-/
import Derived.Test.YtmgikfeknmbpbaaGreatDoorTurn
namespace Go.Proofs.YtmgikfeknmbpbaaGreatDoor.M

/-- The first byte of a text, and what stands behind it. -/
def stepL : List UInt8 → Option (UInt8 × List UInt8)
  | [] => none
  | c :: r => if c = 60 then none else if c = 38 then
      (if fromB 59 r = [] then none else (match entL (upTo 59 r) with | some b => some (b, (fromB 59 r).tail) | none => none))
    else some (c, r)

theorem stepL_open (r : List UInt8) : stepL (60 :: r) = none := by simp [stepL]
theorem stepL_plain {c : UInt8} (r : List UInt8) (h : c ≠ 60) (h2 : c ≠ 38) : stepL (c :: r) = some (c, r) := by simp [stepL, h, h2]
theorem stepL_short (r : List UInt8) (h : fromB 59 r = []) : stepL (38 :: r) = none := by simp [stepL, h]
theorem stepL_bad (r : List UInt8) (h : entL (upTo 59 r) = none) : stepL (38 :: r) = none := by simp [stepL, h]
theorem stepL_ent (r : List UInt8) (b : UInt8) (h : fromB 59 r ≠ []) (hb : entL (upTo 59 r) = some b) : stepL (38 :: r) = some (b, (fromB 59 r).tail) := by simp [stepL, h, hb]

theorem unesc_none {l : List UInt8} (hl : l ≠ []) (h : stepL l = none) : unesc l = none := by
  match l, hl with
  | c :: r, _ =>
    by_cases h60 : c = 60
    · subst h60; exact unesc_open r
    by_cases h38 : c = 38
    · subst h38
      by_cases hf : fromB 59 r = []
      · exact unesc_short r hf
      · cases he : entL (upTo 59 r) with
        | none => exact unesc_bad r he
        | some b => rw [stepL_ent r b hf he] at h; cases h
    · rw [stepL_plain r h60 h38] at h; cases h
theorem unesc_some {l q : List UInt8} {b : UInt8} (h : stepL l = some (b, q)) : unesc l = (unesc q).map (b :: ·) ∧ q.length < l.length := by
  match l, h with
  | c :: r, h =>
    by_cases h60 : c = 60
    · subst h60; rw [stepL_open] at h; cases h
    by_cases h38 : c = 38
    · subst h38
      cases hf : fromB 59 r with
      | nil => rw [stepL_short r hf] at h; cases h
      | cons x t =>
        cases he : entL (upTo 59 r) with
        | none => rw [stepL_bad r he] at h; cases h
        | some b' =>
          rw [stepL_ent r b' (by rw [hf]; simp) he, hf] at h
          obtain ⟨rfl, rfl⟩ := Prod.mk.inj (Option.some.inj h)
          have := fromB_le 59 r
          rw [hf] at this
          exact ⟨unesc_ent r _ x _ hf he, by simp at this ⊢; omega⟩
    · rw [stepL_plain r h60 h38] at h
      obtain ⟨rfl, rfl⟩ := Prod.mk.inj (Option.some.inj h)
      exact ⟨unesc_plain _ h60 h38, by simp⟩

theorem UeAt.step {l rest q acc : List UInt8} {b : UInt8} (h : UeAt l rest acc) (hs : stepL rest = some (b, q)) : UeAt l q (acc ++ [b]) := by
  obtain ⟨a, e⟩ := h
  obtain ⟨e1, e2⟩ := unesc_some hs
  refine ⟨by simp; omega, ?_⟩
  rw [e, e1, Option.map_map]
  congr 1
  funext x
  simp [Function.comp]
theorem UeAt.bad {l rest acc : List UInt8} (h : UeAt l rest acc) (hr : rest ≠ []) (hs : stepL rest = none) : unescR l = ([], false) := h.no (unesc_none hr hs)

/-- Up to the first such byte, by places. -/
theorem upTo_ne {c : UInt8} {l : List UInt8} : ∀ x ∈ upTo c l, x ≠ c := by
  induction l with
  | nil => intro x hx; simp [upTo] at hx
  | cons b l ih =>
    intro x hx
    by_cases h : b = c
    · subst h; rw [upTo_cons_eq] at hx; cases hx
    · rw [upTo_cons_ne l h] at hx
      rcases List.mem_cons.1 hx with rfl | hx
      · exact h
      · exact ih x hx
theorem upTo_end (c : UInt8) (l : List UInt8) : (upTo c l).length ≤ l.length ∧ ((upTo c l).length = l.length ↔ fromB c l = []) := by
  have e := congrArg List.length (upTo_from c l)
  rw [List.length_append] at e
  refine ⟨by omega, ?_⟩
  constructor
  · intro h; exact List.length_eq_zero_iff.1 (by omega)
  · intro h; rw [h] at e; simp at e; exact e
theorem upTo_get (c : UInt8) (l : List UInt8) (j : Nat) (hj : j < l.length) (hle : j ≤ (upTo c l).length) : l[j] = c ↔ j = (upTo c l).length := by
  have e := upTo_from c l
  constructor
  · intro h
    apply Classical.byContradiction
    intro hn
    have hj' : j < (upTo c l).length := by omega
    have h2 : l[j] = (upTo c l)[j] := by
      have : (upTo c l ++ fromB c l)[j]'(by rw [e]; exact hj) = (upTo c l)[j] := List.getElem_append_left hj'
      rw [← this]; congr 1; exact e.symm
    exact upTo_ne _ (List.getElem_mem hj') (h2.symm.trans h)
  · intro h
    cases hf : fromB c l with
    | nil =>
      have := (upTo_end c l).2.2 hf
      omega
    | cons x q =>
      have hx := fromB_head hf
      have : (upTo c l ++ fromB c l)[j]'(by rw [e]; exact hj) = x := by
        rw [List.getElem_append_right (by omega)]
        simp [h, hf]
      rw [← hx, ← this]; congr 1; exact e.symm
theorem upTo_at (s : ByteArray) (c : UInt8) (a k : Nat) (ha : a ≤ k) (hk : k < s.size) (hle : k ≤ a + (upTo c (s.data.toList.drop a)).length) : s[k] = c ↔ k = a + (upTo c (s.data.toList.drop a)).length := by
  have el : s.data.toList.length = s.size := Array.length_toList
  have h := upTo_get c (s.data.toList.drop a) (k - a) (by rw [List.length_drop]; omega) (by omega)
  have h2 : (s.data.toList.drop a)[k - a]'(by rw [List.length_drop]; omega) = s[k] := by
    rw [List.getElem_drop]
    have : a + (k - a) = k := by omega
    simp only [this]
    rfl
  rw [h2] at h
  rw [h]
  omega
theorem upTo_len (s : ByteArray) (c : UInt8) (a : Nat) (ha : a ≤ s.size) : a + (upTo c (s.data.toList.drop a)).length ≤ s.size ∧ (a + (upTo c (s.data.toList.drop a)).length = s.size ↔ fromB c (s.data.toList.drop a) = []) := by
  have el : s.data.toList.length = s.size := Array.length_toList
  obtain ⟨h1, h2⟩ := upTo_end c (s.data.toList.drop a)
  rw [List.length_drop] at h1 h2
  refine ⟨by omega, ?_⟩
  rw [← h2]
  omega
theorem extract_list (s : ByteArray) (a b : Nat) : (s.extract a b).data.toList = (s.data.toList.drop a).take (b - a) := by
  have h1 : (s.extract a b).data = s.data.extract a b := by simp
  rw [h1, Array.toList_extract]
theorem extract_upTo (s : ByteArray) (c : UInt8) (a : Nat) : (s.extract a (a + (upTo c (s.data.toList.drop a)).length)).data.toList = upTo c (s.data.toList.drop a) := by
  rw [extract_list, show a + (upTo c (s.data.toList.drop a)).length - a = (upTo c (s.data.toList.drop a)).length by omega]
  have e := upTo_from c (s.data.toList.drop a)
  generalize upTo c (s.data.toList.drop a) = p at e ⊢
  rw [← e]
  simp
theorem drop_upTo (s : ByteArray) (c : UInt8) (a : Nat) : s.data.toList.drop (a + (upTo c (s.data.toList.drop a)).length + 1) = (fromB c (s.data.toList.drop a)).tail := by
  have e := upTo_from c (s.data.toList.drop a)
  rw [Nat.add_assoc, ← List.drop_drop]
  generalize upTo c (s.data.toList.drop a) = p at e ⊢
  generalize fromB c (s.data.toList.drop a) = q at e ⊢
  rw [← e]
  simp
theorem extract_rest (s : ByteArray) (a : Nat) : (s.extract a s.size).data.toList = s.data.toList.drop a := by
  have el : s.data.toList.length = s.size := Array.length_toList
  rw [extract_list, List.take_of_length_le (by rw [List.length_drop]; omega)]
theorem drop_cons (s : ByteArray) (k : Nat) (h : k < s.size) : s.data.toList.drop k = s[k] :: s.data.toList.drop (k + 1) := by
  have e : s.data.toList.length = s.size := Array.length_toList
  rw [List.drop_eq_getElem_cons (by omega)]
  rfl
theorem drop_none (s : ByteArray) (k : Nat) (h : ¬ k < s.size) : s.data.toList.drop k = [] := by
  have e : s.data.toList.length = s.size := Array.length_toList
  exact List.drop_of_length_le (by omega)

/-- The names that stand for bytes. -/
theorem ent_amp : entL [97, 109, 112] = some 38 := by simp [entL]
theorem ent_lt : entL [108, 116] = some 60 := by simp [entL]
theorem ent_gt : entL [103, 116] = some 62 := by simp [entL]
theorem ent_quot : entL [113, 117, 111, 116] = some 34 := by simp [entL]
theorem ent_apos : entL [97, 112, 111, 115] = some 39 := by simp [entL]
def entFree (l : List UInt8) : Prop := l ≠ [97, 109, 112] ∧ l ≠ [108, 116] ∧ l ≠ [103, 116] ∧ l ≠ [113, 117, 111, 116] ∧ l ≠ [97, 112, 111, 115]
theorem ent_num {l : List UInt8} (h : entFree l) (h35 : l.head? = some 35) : entL l = if (parseNum l.tail 126).2 && decide (32 ≤ (parseNum l.tail 126).1) then some (UInt8.ofNat (decVal l.tail)) else none := by
  obtain ⟨h1, h2, h3, h4, h5⟩ := h
  unfold entL
  rw [if_neg h1, if_neg h2, if_neg h3, if_neg h4, if_neg h5, if_pos h35]
theorem ent_not {l : List UInt8} (h : entFree l) (h35 : l.head? ≠ some 35) : entL l = none := by
  obtain ⟨h1, h2, h3, h4, h5⟩ := h
  unfold entL
  rw [if_neg h1, if_neg h2, if_neg h3, if_neg h4, if_neg h5, if_neg h35]
end Go.Proofs.YtmgikfeknmbpbaaGreatDoor.M
