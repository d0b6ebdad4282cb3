/-
  A path comes back of its text; what is read is a path: no program in sight.
-/
import Derived.Test.YtifnolomekhmfaaGreatMathPath
import Derived.Test.YtifnolomekhmfaaGreatMathSplit
namespace Go.Proofs.YtifnolomekhmfaaGreat.M

theorem digL_not47 : ∀ n : Fin 16, ¬ digL n.val = 47 := by decide

theorem quote_no47 (l : List UInt8) : 47 ∉ quoteL l := by
  induction l with
  | nil => simp [quoteL]
  | cons c r ih =>
    have e : quoteL (c :: r) = quoteB c ++ quoteL r := by simp [quoteL]
    rw [e, List.mem_append]
    rintro (h | h)
    · cases hf : freeB (c.toNat : Int)
      · rw [quoteB_no hf] at h
        have hc := c.toNat_lt
        have h1 := digL_not47 ⟨c.toNat / 16, by omega⟩
        have h2 := digL_not47 ⟨c.toNat % 16, by omega⟩
        simp only at h1 h2
        simp only [List.mem_cons, List.not_mem_nil, or_false] at h
        rcases h with h | h | h
        · exact absurd h (by decide)
        · exact h1 h.symm
        · exact h2 h.symm
      · rw [quoteB_yes hf] at h
        simp only [List.mem_cons, List.not_mem_nil, or_false] at h
        rw [← h] at hf
        exact absurd hf (by decide)
    · exact ih h

theorem tellL_cons (s : ByteArray) (r : List ByteArray) : tellL (s :: r) = 47 :: (quoteL s.data.toList ++ tellL r) := by
  simp [tellL]

theorem cuts_tell (r : List ByteArray) : ∀ s : ByteArray, cuts (quoteL s.data.toList ++ tellL r) = quoteL s.data.toList :: r.map fun t => quoteL t.data.toList := by
  induction r with
  | nil => intro s; simp only [tellL, List.flatMap_nil, List.append_nil, List.map_nil]; exact cuts_none _ (quote_no47 _)
  | cons t r ih =>
    intro s
    rw [tellL_cons, cuts_app _ _ (quote_no47 _), ih t, List.map_cons]

theorem pieces_tell (s : ByteArray) (r : List ByteArray) : piecesL (quoteL s.data.toList ++ tellL r) = (s :: r).map qB := by
  unfold piecesL
  rw [cuts_tell, List.map_cons, List.map_map]
  rfl

theorem quote_ne {l : List UInt8} (h : l ≠ []) : quoteL l ≠ [] := by
  intro e
  have := unq_quote l
  rw [e] at this
  simp [unq] at this
  exact h this

theorem nameB_ne {s : ByteArray} (h : nameB s = true) : s.data.toList ≠ [] ∧ ¬ s.data.toList = [46] ∧ ¬ s.data.toList = [46, 46] := by
  unfold nameB at h
  simp only [Bool.and_eq_true, inB, decide_eq_true_eq, Bool.not_eq_true', beq_eq_false_iff_ne, ByteArray.toList_eq] at h
  obtain ⟨_, ⟨h1, _⟩, _, h2, h3⟩ := h
  refine ⟨fun e => ?_, h2, h3⟩
  have e2 : s.data.toList.length = s.size := Array.length_toList
  rw [e] at e2
  simp at e2
  omega

theorem bytesOf_back (s : ByteArray) : bytesOf s.data.toList = s := by
  apply ByteArray.ext
  simp [bytesOf]

theorem step_q {s : ByteArray} (h : nameB s = true) (out : List ByteArray) : stepP out (qB s) = some (out ++ [s]) := by
  have e : unqR (qB s).data.toList = (s.data.toList, true) := unqR_quote _
  obtain ⟨h0, h1, h2⟩ := nameB_ne h
  rw [stepP_push (by rw [e]) (by rw [e]; exact h0) (by rw [e]; exact h1) (by rw [e]; exact h2), e, bytesOf_back]

theorem fold_q (ss : List ByteArray) : ∀ out : List ByteArray, (∀ s ∈ ss, nameB s = true) → foldP out (ss.map qB) = some (out ++ ss) := by
  induction ss with
  | nil => intro out _; simp [foldP]
  | cons s r ih =>
    intro out h
    rw [List.map_cons, foldP, step_q (h s (by simp)), Option.bind_some, ih _ (fun t ht => h t (List.mem_cons_of_mem _ ht)), List.append_assoc]
    rfl

theorem strip_q {ss : List ByteArray} (h : ∀ s ∈ ss, nameB s = true) : strip (ss.map qB) = ss.map qB := by
  unfold strip
  rw [if_neg]
  intro e
  have hm : bytesOf [] ∈ ss.map qB := List.mem_of_getLast? e
  obtain ⟨s, hs, he⟩ := List.mem_map.1 hm
  have h1 := congrArg (fun x : ByteArray => x.data.toList) he
  exact quote_ne (nameB_ne (h s hs)).1 h1

theorem pathB_all {ss : List ByteArray} (h : pathB ss = true) : ∀ s ∈ ss, nameB s = true := by
  unfold pathB at h
  simp only [Bool.and_eq_true, List.all_eq_true] at h
  exact h.1

/-- A path comes back of its text. -/
theorem parseP_text {ss : List ByteArray} (h : pathB ss = true) : parseP (ptextL ss) = (ss, true) := by
  cases ss with
  | nil => rw [ptextL_nil]; decide
  | cons s r =>
    rw [ptextL_some h (by simp), tellL_cons]
    have ha := pathB_all h
    refine parseP_yes rfl ?_ h
    show foldP [] (strip (piecesL (quoteL s.data.toList ++ tellL r))) = some (s :: r)
    rw [pieces_tell, strip_q ha, fold_q _ _ ha]
    rfl

/-- What is read is a path. -/
theorem parseP_path {l : List UInt8} (h : (parseP l).2 = true) : pathB (parseP l).1 = true := by
  unfold parseP at h ⊢
  split
  · rename_i hh
    rw [if_pos hh] at h
    split
    · rename_i ns hns
      rw [hns] at h
      by_cases hp : pathB ns = true
      · simp [hp]
      · simp [hp] at h
    · rename_i hns
      rw [hns] at h
      exact absurd h (by decide)
  · rename_i hh
    rw [if_neg hh] at h
    exact absurd h (by decide)

theorem ptextL_len {ss : List ByteArray} : (ptextL ss).length ≤ 100 := by
  cases hp : pathB ss
  · rw [ptextL_not hp]; simp
  · by_cases h0 : ss = []
    · subst h0; rw [ptextL_nil]; simp
    · rw [ptextL_some hp h0]
      have h1 := tellL_le hp ss.length (Nat.le_refl _)
      rw [List.take_length] at h1
      have := pathB_len hp
      omega
end Go.Proofs.YtifnolomekhmfaaGreat.M
