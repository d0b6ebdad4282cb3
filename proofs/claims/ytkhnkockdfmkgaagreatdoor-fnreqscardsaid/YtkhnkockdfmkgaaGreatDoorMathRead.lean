/-
  What the specification keeps while it reads heads, and what code comes of it.
-/
import Derived.Test.YtkhnkockdfmkgaaGreatDoorMathReqs
namespace Go.Proofs.YtkhnkockdfmkgaaGreatDoor
open M
set_option linter.unusedVariables false

theorem snocInd {P : List Hd → Prop} (nil : P []) (append_singleton : ∀ l x, P l → P (l ++ [x])) (l : List Hd) : P l := by
  have : ∀ r : List Hd, P r.reverse := by
    intro r
    induction r with
    | nil => exact nil
    | cons x r ih => rw [List.reverse_cons]; exact append_singleton _ _ ih
  have h := this l.reverse
  rwa [List.reverse_reverse] at h
def sizeF (hs : List Hd) : Int := hs.foldl (fun z h => if h.1 = lenName then (parseNum h.2.data.toList 9999999).1 else if h.1 = codName then -1 else z) 0
def toldF (hs : List Hd) : Nat := (lensOf hs).length + (codsOf hs).length
def stepC (st : List Int × Nat) (h : Hd) : List Int × Nat :=
  if h.1 = lenName then st else if h.1 = codName then (if codOk h then st else (st.1 ++ [501], st.2)) else (if 8 < st.2 + 1 then st.1 ++ [431] else st.1, st.2 + 1)
theorem stepC_len {st : List Int × Nat} {h : Hd} (e : h.1 = lenName) : stepC st h = st := if_pos e
theorem stepC_cod {st : List Int × Nat} {h : Hd} (e0 : ¬ h.1 = lenName) (e : h.1 = codName) : stepC st h = (st.1 ++ (if codOk h then [] else [501]), st.2) := by
  unfold stepC; rw [if_neg e0, if_pos e]; split <;> simp
theorem stepC_oth {st : List Int × Nat} {h : Hd} (e0 : ¬ h.1 = lenName) (e : ¬ h.1 = codName) : stepC st h = (st.1 ++ (if 8 < st.2 + 1 then [431] else []), st.2 + 1) := by
  unfold stepC; rw [if_neg e0, if_neg e]; split <;> simp
def codesF (hs : List Hd) : List Int := (hs.foldl stepC ([], 0)).1
theorem lens_snoc (hs : List Hd) (h : Hd) : lensOf (hs ++ [h]) = lensOf hs ++ (if h.1 = lenName then [h] else []) := by
  simp only [lensOf, List.filter_append]
  by_cases e : h.1 = lenName <;> simp [e]
theorem cods_snoc (hs : List Hd) (h : Hd) : codsOf (hs ++ [h]) = codsOf hs ++ (if h.1 = codName then [h] else []) := by
  simp only [codsOf, List.filter_append]
  by_cases e : h.1 = codName <;> simp [e]
theorem oth_snoc (hs : List Hd) (h : Hd) : othOf (hs ++ [h]) = othOf hs ++ (if h.1 = lenName ∨ h.1 = codName then [] else [h]) := by
  simp only [othOf, List.filter_append]
  by_cases e : h.1 = lenName <;> by_cases e2 : h.1 = codName <;> simp [e, e2]
theorem len_cod {h : Hd} (e : h.1 = lenName) : ¬ h.1 = codName := by rw [e]; decide
theorem fold_snd (hs : List Hd) : (hs.foldl stepC ([], 0)).2 = (othOf hs).length := by
  induction hs using snocInd with
  | nil => rfl
  | append_singleton hs h ih =>
    rw [List.foldl_append, List.foldl_cons, List.foldl_nil, oth_snoc]
    by_cases e : h.1 = lenName
    · rw [stepC_len e]; simp [e, ih]
    · by_cases e2 : h.1 = codName
      · rw [stepC_cod e e2]; simp [e2, ih]
      · rw [stepC_oth e e2]; simp [e, e2, ih]
theorem codes_len {hs : List Hd} {h : Hd} (e : h.1 = lenName) : codesF (hs ++ [h]) = codesF hs := by
  unfold codesF; rw [List.foldl_append, List.foldl_cons, List.foldl_nil, stepC_len e]
theorem codes_cod {hs : List Hd} {h : Hd} (e : h.1 = codName) : codesF (hs ++ [h]) = codesF hs ++ (if codOk h then [] else [501]) := by
  unfold codesF; rw [List.foldl_append, List.foldl_cons, List.foldl_nil, stepC_cod (fun e2 => len_cod e2 e) e]
theorem codes_oth {hs : List Hd} {h : Hd} (e : ¬ h.1 = lenName) (e2 : ¬ h.1 = codName) : codesF (hs ++ [h]) = codesF hs ++ (if 8 < (othOf hs).length + 1 then [431] else []) := by
  unfold codesF; rw [List.foldl_append, List.foldl_cons, List.foldl_nil, stepC_oth e e2, fold_snd]
theorem size_len {hs : List Hd} {h : Hd} (e : h.1 = lenName) : sizeF (hs ++ [h]) = (parseNum h.2.data.toList 9999999).1 := by
  unfold sizeF; rw [List.foldl_append, List.foldl_cons, List.foldl_nil, if_pos e]
theorem size_cod {hs : List Hd} {h : Hd} (e : h.1 = codName) : sizeF (hs ++ [h]) = -1 := by
  unfold sizeF; rw [List.foldl_append, List.foldl_cons, List.foldl_nil, if_neg (fun e2 => len_cod e2 e), if_pos e]
theorem size_oth {hs : List Hd} {h : Hd} (e : ¬ h.1 = lenName) (e2 : ¬ h.1 = codName) : sizeF (hs ++ [h]) = sizeF hs := by
  unfold sizeF; rw [List.foldl_append, List.foldl_cons, List.foldl_nil, if_neg e, if_neg e2]
theorem told_len {hs : List Hd} {h : Hd} (e : h.1 = lenName) : toldF (hs ++ [h]) = toldF hs + 1 := by
  unfold toldF; rw [lens_snoc, cods_snoc, if_pos e, if_neg (len_cod e)]; simp; omega
theorem told_cod {hs : List Hd} {h : Hd} (e : h.1 = codName) : toldF (hs ++ [h]) = toldF hs + 1 := by
  unfold toldF; rw [lens_snoc, cods_snoc, if_pos e, if_neg (fun e2 => len_cod e2 e)]; simp; omega
theorem told_oth {hs : List Hd} {h : Hd} (e : ¬ h.1 = lenName) (e2 : ¬ h.1 = codName) : toldF (hs ++ [h]) = toldF hs := by
  unfold toldF; rw [lens_snoc, cods_snoc, if_neg e, if_neg e2]; simp
theorem codes_is (hs : List Hd) : ((431 : Int) ∈ codesF hs ↔ 8 < (othOf hs).length) ∧ ((501 : Int) ∈ codesF hs ↔ (codsOf hs).all codOk = false) ∧ (∀ c ∈ codesF hs, c = 431 ∨ c = 501) := by
  induction hs using snocInd with
  | nil => simp [codesF, othOf, codsOf]
  | append_singleton hs h ih =>
    obtain ⟨i1, i2, i3⟩ := ih
    by_cases e : h.1 = lenName
    · have eo : othOf (hs ++ [h]) = othOf hs := by rw [oth_snoc]; simp [e]
      have ec : codsOf (hs ++ [h]) = codsOf hs := by rw [cods_snoc]; simp [len_cod e]
      rw [codes_len e, eo, ec]
      exact ⟨i1, i2, i3⟩
    · by_cases e2 : h.1 = codName
      · have eo : othOf (hs ++ [h]) = othOf hs := by rw [oth_snoc]; simp [e2]
        have ec : codsOf (hs ++ [h]) = codsOf hs ++ [h] := by rw [cods_snoc]; simp [e2]
        rw [codes_cod e2, eo, ec]
        cases hc : codOk h
        · simp [hc, i1]
          intro c hc
          rcases hc with hc | hc
          · exact i3 c hc
          · exact .inr hc
        · simp [hc, i1]
          refine ⟨by simpa using i2, i3⟩
      · have eo : othOf (hs ++ [h]) = othOf hs ++ [h] := by rw [oth_snoc]; simp [e, e2]
        have ec : codsOf (hs ++ [h]) = codsOf hs := by rw [cods_snoc]; simp [e2]
        rw [codes_oth e e2, eo, ec]
        by_cases h8 : 8 < (othOf hs).length + 1
        · rw [if_pos h8]
          refine ⟨by simp; omega, by simpa using i2, fun c hc => ?_⟩
          rcases List.mem_append.1 hc with hc | hc
          · exact i3 c hc
          · exact .inl (by simpa using hc)
        · rw [if_neg h8]
          refine ⟨by simp [i1]; omega, by simpa using i2, fun c hc => i3 c (by simpa using hc)⟩
theorem size_is (hs : List Hd) (h : toldF hs ≤ 1) : sizeF hs = if chkF hs then -1 else (lenF hs : Int) := by
  induction hs using snocInd with
  | nil => rfl
  | append_singleton hs x ih =>
    by_cases e : x.1 = lenName
    · rw [told_len e] at h
      have h0 : toldF hs = 0 := by omega
      have hl : lensOf hs = [] := List.length_eq_zero_iff.1 (by unfold toldF at h0; omega)
      have hc : codsOf hs = [] := List.length_eq_zero_iff.1 (by unfold toldF at h0; omega)
      rw [size_len e]
      unfold chkF lenF
      rw [lens_snoc, cods_snoc, if_pos e, if_neg (len_cod e), hl, hc]
      have : 0 ≤ (parseNum x.2.data.toList 9999999).1 := by unfold parseNum; split <;> simp
      show _ = ((numOf x : Nat) : Int)
      unfold numOf
      omega
    · by_cases e2 : x.1 = codName
      · rw [size_cod e2]
        unfold chkF
        rw [cods_snoc, if_pos e2]
        simp
      · rw [told_oth e e2] at h
        rw [size_oth e e2, ih h]
        unfold chkF lenF
        rw [lens_snoc, cods_snoc, if_neg e, if_neg e2, List.append_nil, List.append_nil]
def leastF (l cs : List Int) : Int := (cs.find? fun c => decide (c ∈ l)).getD 0
def codesG (hs : List Hd) : List Int := codesF hs ++ if 200 < sizeF hs then [413] else []
/-- The code that comes of it is the code of the document's order. -/
theorem least_is (hs : List Hd) (h : toldF hs ≤ 1) (hn : (lensOf hs).all numOk = true) : leastF (codesG hs) [431, 501, 413] = frameC hs := by
  obtain ⟨i1, i2, i3⟩ := codes_is hs
  have h1 : (431 : Int) ∈ codesG hs ↔ 8 < (othOf hs).length := by
    unfold codesG; rw [List.mem_append, i1]
    constructor
    · rintro (h | h)
      · exact h
      · split at h <;> simp at h
    · exact .inl
  have h2 : (501 : Int) ∈ codesG hs ↔ (codsOf hs).all codOk = false := by
    unfold codesG; rw [List.mem_append, i2]
    constructor
    · rintro (h | h)
      · exact h
      · split at h <;> simp at h
    · exact .inl
  have h3 : (413 : Int) ∈ codesG hs ↔ (lensOf hs).any (fun h => decide (200 < numOf h)) = true := by
    have hno : ¬ (413 : Int) ∈ codesF hs := fun hm => by rcases i3 _ hm with h | h <;> simp at h
    have : (413 : Int) ∈ codesG hs ↔ 200 < sizeF hs := by
      unfold codesG; rw [List.mem_append]
      constructor
      · rintro (h | h)
        · exact absurd h hno
        · split at h
          · assumption
          · simp at h
      · intro h; right; rw [if_pos h]; simp
    rw [this, size_is hs h]
    unfold chkF lenF
    unfold toldF at h
    cases hc : codsOf hs with
    | cons y ys =>
      have : lensOf hs = [] := List.length_eq_zero_iff.1 (by rw [hc] at h; simp at h; omega)
      simp [this]
    | nil =>
      cases hl : lensOf hs with
      | nil => simp
      | cons y ys =>
        have : ys = [] := List.length_eq_zero_iff.1 (by rw [hl] at h; simp at h; omega)
        subst this
        simp
        omega
  unfold frameC leastF
  rw [if_neg (by unfold toldF at h; omega), if_neg (by rw [hn]; simp)]
  simp only [List.find?_cons, List.find?_nil, h1, h2, h3]
  by_cases c1 : 8 < (othOf hs).length
  · simp [c1]
  · cases c2 : (codsOf hs).all codOk
    · simp [c1]
    · cases c3 : (lensOf hs).any (fun h => decide (200 < numOf h))
      · simp [c1]
      · simp [c1]
end Go.Proofs.YtkhnkockdfmkgaaGreatDoor
