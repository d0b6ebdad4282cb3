/-
  What is known by its space and its name, and how sets turn it: no program in sight.
-/
import Derived.Test.YtclnpfpaabmkcabMathProps
namespace Go.Proofs.Ytclnpfpaabmkcab.M

/-- Whether it is of this space and this name. -/
def isP (x y : ByteArray) (p : Pp) : Bool := decide (p.1 = x) && decide (p.2.1 = y)
theorem isP_yes {x y : ByteArray} {p : Pp} (h1 : p.1 = x) (h2 : p.2.1 = y) : isP x y p = true := by simp [isP, h1, h2]
theorem isP_no1 {x y : ByteArray} {p : Pp} (h : ¬ p.1 = x) : isP x y p = false := by simp [isP, h]
theorem isP_no2 {x y : ByteArray} {p : Pp} (h : ¬ p.2.1 = y) : isP x y p = false := by simp [isP, h]
theorem isP_iff {x y : ByteArray} {p : Pp} : isP x y p = true ↔ p.1 = x ∧ p.2.1 = y := by simp [isP]
def knowL (ps : List Pp) (x y : ByteArray) : Option Pp := ps.find? (isP x y)
def valP : Option Pp → ByteArray
  | some p => p.2.2
  | none => ByteArray.empty
theorem know_at {ps : List Pp} {x y : ByteArray} {k : Nat} (hk : k < ps.length) (h : ∀ j (hj : j < ps.length), j < k → isP x y ps[j] = false) (e : isP x y ps[k] = true) : knowL ps x y = some ps[k] := by
  unfold knowL
  rw [List.find?_eq_some_iff_getElem]
  exact ⟨e, k, hk, rfl, fun j hj => by rw [h j (by omega) hj]; rfl⟩
theorem know_none {ps : List Pp} {x y : ByteArray} (h : ∀ j (hj : j < ps.length), isP x y ps[j] = false) : knowL ps x y = none := by
  unfold knowL
  rw [List.find?_eq_none]
  intro p hp
  obtain ⟨j, hj, rfl⟩ := List.mem_iff_getElem.1 hp
  rw [h j hj]; simp
theorem know_next {ps : List Pp} {k : Nat} (hk : k < ps.length) (x y : ByteArray) : knowL (ps.take (k + 1)) x y = (knowL (ps.take k) x y).or (if isP x y ps[k] then some ps[k] else none) := by
  unfold knowL
  rw [List.take_succ_eq_append_getElem hk, List.find?_append]
  congr 1
  simp only [List.find?_cons, List.find?_nil]
  cases isP x y ps[k] <;> simp

/-- A set: whether it is taken, and what. -/
abbrev Sx := Bool × Pp
/-- Of another space or name. -/
def neP (p x : Pp) : Bool := !isP p.1 p.2.1 x
/-- What is known behind one set, from a place on ('d': whether it came, or is not to come). -/
def oneF (d : Bool) (p : Pp) : List Pp → List Pp
  | [] => if d then [] else [p]
  | x :: r => (if d || lessP x p then [] else [p]) ++ ((if neP p x then [x] else []) ++ oneF (d || !lessP x p) p r)
def oneL (l : List Pp) (s : Sx) : List Pp := oneF s.1 s.2 l
theorem less_ne {p x : Pp} (h : lessP x p = true) : neP p x = true := by
  unfold neP
  cases e : isP p.1 p.2.1 x
  · rfl
  · obtain ⟨e1, e2⟩ := isP_iff.1 e
    unfold lessP at h
    rw [if_pos e1, e2, lessT_irr] at h
    cases h
theorem oneF_true (p : Pp) : ∀ l : List Pp, oneF true p l = l.filter (neP p)
  | [] => rfl
  | x :: r => by
    simp only [oneF, Bool.true_or, if_true, List.nil_append, oneF_true p r, List.filter_cons]
    cases neP p x <;> simp
/-- The place ahead of which it comes. -/
def plcL (p : Pp) : List Pp → Nat
  | [] => 0
  | x :: r => if lessP x p then plcL p r + 1 else 0
theorem plc_le (p : Pp) : ∀ l : List Pp, plcL p l ≤ l.length
  | [] => Nat.le_refl _
  | x :: r => by
    unfold plcL
    split
    · have := plc_le p r; simp only [List.length_cons]; omega
    · exact Nat.zero_le _
theorem plc_at (p : Pp) : ∀ (l : List Pp) (k : Nat) (hk : k < l.length), (∀ j (hj : j < l.length), j < k → lessP l[j] p = true) → lessP l[k] p = false → plcL p l = k
  | x :: r, 0, _, _, e => by
    have e' : lessP x p = false := e
    unfold plcL; rw [e']; rfl
  | x :: r, k + 1, hk, h, e => by
    have e0 : lessP x p = true := h 0 (by simp) (by omega)
    unfold plcL
    rw [e0, if_pos rfl, plc_at p r k (by simpa using hk) (fun j hj hjk => by have := h (j + 1) (by simpa using hj) (by omega); simpa using this) (by simpa using e)]
theorem plc_none (p : Pp) : ∀ (l : List Pp), (∀ j (hj : j < l.length), lessP l[j] p = true) → plcL p l = l.length
  | [], _ => rfl
  | x :: r, h => by
    have e0 : lessP x p = true := h 0 (by simp)
    unfold plcL
    rw [e0, if_pos rfl, plc_none p r (fun j hj => by have := h (j + 1) (by simpa using hj); simpa using this)]
    rfl
theorem oneF_plc (p : Pp) (d : Bool) : ∀ l : List Pp, oneF d p l = l.take (plcL p l) ++ ((if d then [] else [p]) ++ (l.drop (plcL p l)).filter (neP p))
  | [] => by cases d <;> simp [oneF, plcL]
  | x :: r => by
    unfold plcL oneF
    cases e : lessP x p
    · simp only [Bool.or_false, Bool.not_false, Bool.or_true, Bool.false_eq_true, if_false, List.take_zero, List.drop_zero, List.nil_append, oneF_true, List.filter_cons]
      cases neP p x <;> simp
    · simp only [Bool.or_true, if_true, List.nil_append, Bool.not_true, Bool.or_false, oneF_plc p d r, less_ne e, List.take_succ_cons, List.drop_succ_cons, List.cons_append]
theorem oneL_eq (l : List Pp) (s : Sx) : oneL l s = l.take (plcL s.2 l) ++ ((if s.1 then [] else [s.2]) ++ (l.drop (plcL s.2 l)).filter (neP s.2)) := oneF_plc s.2 s.1 l
theorem oneF_len (p : Pp) : ∀ (l : List Pp) (d : Bool), (oneF d p l).length ≤ l.length + (if d then 0 else 1)
  | [], d => by cases d <;> simp [oneF]
  | x :: r, d => by
    have h := oneF_len p r (d || !lessP x p)
    have e : (oneF d p (x :: r)).length = (if d || lessP x p then [] else [p]).length + ((if neP p x then [x] else []).length + (oneF (d || !lessP x p) p r).length) := by
      rw [oneF, List.length_append, List.length_append]
    rw [e]
    generalize (oneF (d || !lessP x p) p r).length = n at *
    generalize lessP x p = u at *
    generalize neP p x = v at *
    cases d <;> cases u <;> cases v <;> simp at * <;> omega
theorem oneL_len (l : List Pp) (s : Sx) : (oneL l s).length ≤ l.length + 1 := by
  have := oneF_len s.2 l s.1
  unfold oneL
  split at this <;> omega
theorem oneF_mem (p : Pp) : ∀ (l : List Pp) (d : Bool) (q : Pp), q ∈ oneF d p l → q = p ∨ q ∈ l
  | [], d, q, h => by cases d <;> simp [oneF] at h; exact .inl h
  | x :: r, d, q, h => by
    unfold oneF at h
    rw [List.mem_append, List.mem_append] at h
    rcases h with h | h | h
    · split at h
      · cases h
      · exact .inl (by simpa using h)
    · split at h
      · exact .inr (by simp at h; simp [h])
      · cases h
    · rcases oneF_mem p r _ q h with h | h
      · exact .inl h
      · exact .inr (List.mem_cons_of_mem _ h)
theorem oneL_mem {l : List Pp} {s : Sx} {q : Pp} (h : q ∈ oneL l s) : q = s.2 ∨ q ∈ l := oneF_mem s.2 l s.1 q h
/-- What is known behind all sets. -/
def turnL (l : List Pp) (ss : List Sx) : List Pp := ss.foldl oneL l
theorem turn_next (l : List Pp) (ss : List Sx) (k : Nat) (hk : k < ss.length) : turnL l (ss.take (k + 1)) = oneL (turnL l (ss.take k)) ss[k] := by
  unfold turnL
  rw [List.take_succ_eq_append_getElem hk, List.foldl_append]
  rfl
theorem turn_len (l : List Pp) (ss : List Sx) (k : Nat) : (turnL l (ss.take k)).length ≤ l.length + k := by
  induction k with
  | zero => simp [turnL]
  | succ k ih =>
    by_cases hk : k < ss.length
    · rw [turn_next l ss k hk]
      have := oneL_len (turnL l (ss.take k)) ss[k]
      omega
    · rw [List.take_of_length_le (by omega)]
      rw [List.take_of_length_le (by omega)] at ih
      omega
theorem turn_mem (l : List Pp) (ss : List Sx) (k : Nat) (q : Pp) (h : q ∈ turnL l (ss.take k)) : q ∈ l ∨ ∃ s ∈ ss, q = s.2 := by
  induction k with
  | zero => exact .inl (by simpa [turnL] using h)
  | succ k ih =>
    by_cases hk : k < ss.length
    · rw [turn_next l ss k hk] at h
      rcases oneL_mem h with h | h
      · exact .inr ⟨_, List.getElem_mem hk, h⟩
      · exact ih h
    · rw [List.take_of_length_le (by omega)] at h
      rw [List.take_of_length_le (by omega)] at ih
      exact ih h
def setsB (l : List Pp) (ss : List Sx) : Bool := ss.all (fun s => propB s.2) && propsB (turnL l ss)
def setsL (l : List Pp) (ss : List Sx) : List Pp := if setsB l ss then turnL l ss else l
theorem sets_bad {l : List Pp} {ss : List Sx} (k : Nat) (hk : k < ss.length) (e : propB ss[k].2 = false) : setsB l ss = false ∧ setsL l ss = l := by
  have h : setsB l ss = false := by
    unfold setsB
    have : ss.all (fun s => propB s.2) = false := by
      rw [List.all_eq_false]
      exact ⟨_, List.getElem_mem hk, by simp [e]⟩
    rw [this]; rfl
  exact ⟨h, by unfold setsL; rw [h]; rfl⟩
theorem sets_all {l : List Pp} {ss : List Sx} (h : ∀ j (hj : j < ss.length), propB ss[j].2 = true) : setsB l ss = propsB (turnL l ss) := by
  unfold setsB
  have : ss.all (fun s => propB s.2) = true := by
    rw [List.all_eq_true]
    intro p hp
    obtain ⟨j, hj, rfl⟩ := List.mem_iff_getElem.1 hp
    exact h j hj
  rw [this]; simp
theorem sets_no {l : List Pp} {ss : List Sx} (h : setsB l ss = false) : setsL l ss = l := by unfold setsL; rw [h]; rfl
theorem sets_yes {l : List Pp} {ss : List Sx} (h : setsB l ss = true) : setsL l ss = turnL l ss := by unfold setsL; rw [h]; rfl

def szT (s : Sx) : Nat := szP s.2
def sumT (ss : List Sx) : Nat := (ss.map szT).sum
theorem sumT_snoc (ps : List Sx) (k : Nat) (hk : k < ps.length) : sumT (ps.take (k + 1)) = sumT (ps.take k) + szT ps[k] := by
  unfold sumT
  rw [List.take_succ_eq_append_getElem hk, List.map_append, List.sum_append]
  simp only [List.map_cons, List.map_nil, List.sum_cons, List.sum_nil, Nat.add_zero]
theorem sumT_mem (ps : List Sx) (p : Sx) (h : p ∈ ps) : szT p ≤ sumT ps := by
  induction ps with
  | nil => cases h
  | cons x l ih =>
    simp only [sumT, List.map_cons, List.sum_cons] at *
    rcases List.mem_cons.1 h with rfl | h
    · omega
    · have := ih h; omega
def sameS (ss tt : List Sx) : Bool := decide (ss = tt)
theorem sameS_refl (ss : List Sx) : sameS ss ss = true := by simp [sameS]
theorem sameS_len {ss tt : List Sx} (h : ¬ ss.length = tt.length) : sameS ss tt = false := by
  simp only [sameS, decide_eq_false_iff_not]; intro e; exact h (by rw [e])
theorem sameS_not {ss tt : List Sx} (k : Nat) (h1 : k < ss.length) (h2 : k < tt.length) (h : ¬ ss[k] = tt[k]) : sameS ss tt = false := by
  simp only [sameS, decide_eq_false_iff_not]; intro e; subst e; exact h rfl
theorem sameS_all {ss tt : List Sx} (hl : ss.length = tt.length) (k : Nat) (hk : ¬ k < ss.length) (h : ss.take k = tt.take k) : sameS ss tt = true := by
  rw [List.take_of_length_le (by omega), List.take_of_length_le (by omega)] at h
  simp [sameS, h]
theorem take_sameS {ss tt : List Sx} (k : Nat) (h1 : k < ss.length) (h2 : k < tt.length) (h0 : ss.take k = tt.take k) (h : ss[k] = tt[k]) : ss.take (k + 1) = tt.take (k + 1) := by
  rw [List.take_succ_eq_append_getElem h1, List.take_succ_eq_append_getElem h2, h0, h]
end Go.Proofs.Ytclnpfpaabmkcab.M
