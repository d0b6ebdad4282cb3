/-
  A thing put in order among others: no program in sight.
-/
import Derived.Test.YtifnolomekhmfaaGreatMathTree
namespace Go.Proofs.YtifnolomekhmfaaGreat
open M

/-- Put in its place, in the place of one of its path; d: whether it is put already. -/
def putR (r : Rs) : Bool → List Rs → List Rs
  | true, [] => []
  | false, [] => [r]
  | d, x :: l => (if d || lessL x.pa r.pa then [] else [r]) ++ ((if sameL x.pa r.pa then [] else [x]) ++ putR r (d || !lessL x.pa r.pa) l)

theorem putR_nil (r : Rs) (d : Bool) : putR r d [] = if d then [] else [r] := by cases d <;> rfl
theorem putR_cons (r : Rs) (d : Bool) (x : Rs) (l : List Rs) : putR r d (x :: l) = (if d || lessL x.pa r.pa then [] else [r]) ++ ((if sameL x.pa r.pa then [] else [x]) ++ putR r (d || !lessL x.pa r.pa) l) := by
  cases d <;> rfl
/-- All but what has its path. -/
def notAt (r : Rs) (l : List Rs) : List Rs := l.filter fun x => !sameL x.pa r.pa
theorem notAt_mem {r : Rs} {l : List Rs} {y : Rs} : y ∈ notAt r l ↔ y ∈ l ∧ y.pa ≠ r.pa := by
  unfold notAt sameL
  rw [List.mem_filter]
  simp
theorem putR_true (r : Rs) : ∀ l : List Rs, putR r true l = notAt r l
  | [] => rfl
  | x :: l => by
    rw [putR_cons, Bool.true_or, Bool.true_or, putR_true r l]
    unfold notAt
    rw [List.filter_cons]
    cases sameL x.pa r.pa <;> simp
theorem putR_less {r x : Rs} {l : List Rs} (h : lessL x.pa r.pa = true) : putR r false (x :: l) = x :: putR r false l := by
  have hs : sameL x.pa r.pa = false := by
    unfold sameL
    rw [decide_eq_false_iff_not]
    intro e
    rw [e, lessL_irr] at h
    cases h
  rw [putR_cons, h, hs]
  simp
theorem putR_here {r x : Rs} {l : List Rs} (h : lessL x.pa r.pa = false) : putR r false (x :: l) = r :: notAt r (x :: l) := by
  rw [putR_cons, h]
  have e : (false || !false) = true := rfl
  rw [e, putR_true]
  unfold notAt
  rw [List.filter_cons]
  cases sameL x.pa r.pa <;> simp
theorem putR_mem {r : Rs} : ∀ {l : List Rs} {y : Rs}, y ∈ putR r false l ↔ y = r ∨ (y ∈ l ∧ y.pa ≠ r.pa)
  | [], y => by simp [putR]
  | x :: l, y => by
    cases h : lessL x.pa r.pa
    · rw [putR_here h, List.mem_cons, notAt_mem]
    · rw [putR_less h, List.mem_cons, putR_mem (l := l)]
      have hs : x.pa ≠ r.pa := fun e => by rw [e, lessL_irr] at h; cases h
      constructor
      · rintro (rfl | h1 | h1)
        · exact .inr ⟨List.mem_cons_self .., hs⟩
        · exact .inl h1
        · exact .inr ⟨List.mem_cons_of_mem _ h1.1, h1.2⟩
      · rintro (h1 | ⟨h1, h2⟩)
        · exact .inr (.inl h1)
        · rcases List.mem_cons.1 h1 with rfl | h1
          · exact .inl rfl
          · exact .inr (.inr ⟨h1, h2⟩)

theorem lessL_tri : ∀ a b : List ByteArray, lessL a b = false → lessL b a = false → a = b
  | [], [], _, _ => rfl
  | [], _ :: _, h, _ => by simp [lessL] at h
  | _ :: _, [], _, h => by simp [lessL] at h
  | x :: a, y :: b, h, h' => by
    rw [lessL] at h h'
    by_cases e : x = y
    · subst e
      rw [if_pos rfl] at h h'
      rw [lessL_tri a b h h']
    · rw [if_neg e] at h
      rw [if_neg (fun e' => e e'.symm)] at h'
      exact absurd (str_inj (bytesLess_tri _ _ h h')) e

/-- Ascending, one against all behind it. -/
def Asc (l : List Rs) : Prop := l.Pairwise fun a b => lessL a.pa b.pa = true
theorem asc_of {l : List Rs} (h : ascB lessR l = true) : Asc l := by
  unfold Asc
  rw [List.pairwise_iff_getElem]
  intro i j hi hj hij
  obtain ⟨d, rfl⟩ : ∃ d, j = i + d + 1 := ⟨j - i - 1, by omega⟩
  exact asc_pair h d i hj
theorem asc_to {l : List Rs} (h : Asc l) : ascB lessR l = true := by
  refine ascB_all lessR l fun i hi => ?_
  unfold Asc at h
  rw [List.pairwise_iff_getElem] at h
  exact h i (i + 1) (by omega) hi (Nat.lt_succ_self _)
theorem Asc.put {r : Rs} : ∀ {l : List Rs}, Asc l → Asc (putR r false l)
  | [], _ => by simp [putR, Asc]
  | x :: l, h => by
    have h1 : Asc l := (List.pairwise_cons.1 h).2
    have h2 := (List.pairwise_cons.1 h).1
    cases e : lessL x.pa r.pa
    · rw [putR_here e]
      refine List.pairwise_cons.2 ⟨fun y hy => ?_, List.Pairwise.filter _ h⟩
      obtain ⟨hm, hne⟩ := notAt_mem.1 hy
      have hx : x.pa = r.pa ∨ lessL r.pa x.pa = true := by
        cases e2 : lessL r.pa x.pa
        · exact .inl (lessL_tri _ _ e e2)
        · exact .inr rfl
      rcases List.mem_cons.1 hm with rfl | hm
      · rcases hx with hx | hx
        · exact absurd hx hne
        · exact hx
      · have := h2 y hm
        rcases hx with hx | hx
        · rw [← hx]; exact this
        · exact lessL_trans _ _ _ hx this
    · rw [putR_less e]
      refine List.pairwise_cons.2 ⟨fun y hy => ?_, Asc.put h1⟩
      rcases putR_mem.1 hy with rfl | ⟨hm, _⟩
      · exact e
      · exact h2 y hm
theorem Asc.find {l : List Rs} (h : Asc l) {r : Rs} (hm : r ∈ l) {p : List ByteArray} (hp : r.pa = p) : l.find? (isAt p) = some r := by
  induction l with
  | nil => cases hm
  | cons x l ih =>
    rcases List.mem_cons.1 hm with rfl | hm'
    · rw [List.find?_cons_of_pos (by unfold isAt; rw [hp]; exact sameL_refl _)]
    · have h2 := (List.pairwise_cons.1 h).1 r hm'
      have hne : isAt p x = false := by
        unfold isAt sameL
        rw [decide_eq_false_iff_not]
        intro e
        rw [e, hp, lessL_irr] at h2
        cases h2
      rw [List.find?_cons_of_neg (by simp [hne])]
      exact ih (List.pairwise_cons.1 h).2 hm'
/-- Of a list that ascends: a shelf that is there, or the root. -/
theorem coll_iff {l : List Rs} (h : Asc l) (p : List ByteArray) : collB l p = true ↔ p.length = 0 ∨ ∃ r ∈ l, r.pa = p ∧ r.co = true := by
  unfold collB
  rw [Bool.or_eq_true, decide_eq_true_eq]
  constructor
  · rintro (h1 | h1)
    · exact .inl h1
    · cases e : l.find? (isAt p) with
      | none => rw [e] at h1; cases h1
      | some r =>
        rw [e] at h1
        refine .inr ⟨r, List.mem_of_find?_eq_some e, ?_, h1⟩
        have := List.find?_some e
        unfold isAt sameL at this
        exact of_decide_eq_true this
  · rintro (h1 | ⟨r, hm, hp, hc⟩)
    · exact .inl h1
    · right
      rw [h.find hm hp]
      exact hc
/-- What is put among right things, on a shelf that is there, in no shelf's place: they stay right. -/
theorem tree_put {l : List Rs} {r : Rs} (h : treeB l = true) (hr : resB r = true) (hon : collB l (aboveL r.pa) = true) (hno : ∀ x ∈ l, x.pa = r.pa → x.co = false) (hlen : (putR r false l).length ≤ 12) : treeB (putR r false l) = true := by
  unfold treeB at h
  simp only [Bool.and_eq_true, decide_eq_true_eq, List.all_eq_true] at h
  obtain ⟨_, h2, h3, h4⟩ := h
  have ha := asc_of h3
  have hp := ha.put (r := r)
  unfold treeB
  simp only [Bool.and_eq_true, decide_eq_true_eq, List.all_eq_true]
  have keep : ∀ p, collB l p = true → collB (putR r false l) p = true := fun p hc => by
    rw [coll_iff ha] at hc
    rw [coll_iff hp]
    rcases hc with hc | ⟨s, hm, he, hs⟩
    · exact .inl hc
    · refine .inr ⟨s, putR_mem.2 (.inr ⟨hm, fun e => ?_⟩), he, hs⟩
      rw [hno s hm e] at hs
      cases hs
  refine ⟨hlen, fun y hy => ?_, asc_to hp, fun y hy => ?_⟩
  · rcases putR_mem.1 hy with rfl | ⟨hm, _⟩
    · exact hr
    · exact h2 y hm
  · rcases putR_mem.1 hy with rfl | ⟨hm, _⟩
    · exact keep _ hon
    · exact keep _ (h4 y hm)
end Go.Proofs.YtifnolomekhmfaaGreat
