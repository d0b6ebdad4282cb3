/-
  Plain facts on the text of a path: no program in sight.
-/
import Derived.Test.YtifnolomekhmfaaGreatMathPath
import Derived.Lib.Join
namespace Go.Proofs.YtifnolomekhmfaaGreat.M

/-- Whether these are the names of a path, as the document has it. -/
def pathB (ss : List ByteArray) : Bool := ss.all nameB && decide (ss.length ≤ 4)
def qB (s : ByteArray) : ByteArray := bytesOf (quoteL s.data.toList)
def tellL (ss : List ByteArray) : List UInt8 := ss.flatMap fun s => 47 :: quoteL s.data.toList
/-- The text of a path. -/
def ptextL (ss : List ByteArray) : List UInt8 := if pathB ss then (if ss = [] then [47] else tellL ss) else []

theorem ptextL_not {ss : List ByteArray} (h : pathB ss = false) : ptextL ss = [] := by simp [ptextL, h]
theorem ptextL_nil : ptextL [] = [47] := by simp [ptextL, pathB]
theorem ptextL_some {ss : List ByteArray} (h : pathB ss = true) (h0 : ss ≠ []) : ptextL ss = tellL ss := by simp [ptextL, h, h0]

theorem tellL_snoc (ss : List ByteArray) (k : Nat) (h : k < ss.length) : tellL (ss.take (k + 1)) = tellL (ss.take k) ++ [47] ++ quoteL (ss[k]).data.toList := by
  unfold tellL
  rw [List.take_succ_eq_append_getElem h, List.flatMap_append]
  simp only [List.flatMap_cons, List.flatMap_nil, List.append_nil, List.append_assoc, List.singleton_append]

theorem nameB_size {s : ByteArray} (h : nameB s = true) : s.size ≤ 8 := by
  unfold nameB at h
  simp only [Bool.and_eq_true, inB, decide_eq_true_eq] at h
  omega

theorem pathB_name {ss : List ByteArray} (h : pathB ss = true) (k : Nat) (hk : k < ss.length) : nameB ss[k] = true := by
  unfold pathB at h
  simp only [Bool.and_eq_true, List.all_eq_true] at h
  exact h.1 _ (List.getElem_mem hk)
theorem pathB_len {ss : List ByteArray} (h : pathB ss = true) : ss.length ≤ 4 := by
  unfold pathB at h
  simp only [Bool.and_eq_true, decide_eq_true_eq] at h
  exact h.2

theorem quote_short {s : ByteArray} (h : s.size ≤ 8) : (quoteL s.data.toList).length ≤ 24 := by
  have := quoteL_le s.data.toList
  have e : s.data.toList.length = s.size := Array.length_toList
  omega

theorem tellL_le {ss : List ByteArray} (h : pathB ss = true) (k : Nat) (hk : k ≤ ss.length) : (tellL (ss.take k)).length ≤ 25 * k := by
  induction k with
  | zero => simp [tellL]
  | succ k ih =>
    rw [tellL_snoc ss k hk]
    have h1 := ih (by omega)
    have h2 := quote_short (nameB_size (pathB_name h k hk))
    simp only [List.length_append, List.length_cons, List.length_nil]
    omega

theorem tellL_join (ss : List ByteArray) (h : ss ≠ []) : [47] ++ Lib.join ((ss.map qB).map (·.data.toList)) [47] = tellL ss := by
  cases ss with
  | nil => exact absurd rfl h
  | cons s r =>
    rw [List.map_cons, List.map_cons, Lib.join_cons]
    simp only [tellL, Lib.joinTail, List.map_map, List.flatMap]
    simp only [Function.comp_def, qB, bytesOf, List.cons_append, List.nil_append, List.map_cons, List.flatten_cons]

theorem join_le {ss : List ByteArray} (h : pathB ss = true) : (Lib.join ((ss.map qB).map (·.data.toList)) [47]).length ≤ 100 := by
  by_cases h0 : ss = []
  · subst h0; simp [Lib.join]
  · have e := congrArg List.length (tellL_join ss h0)
    have h1 := tellL_le h ss.length (Nat.le_refl _)
    rw [List.take_length] at h1
    have := pathB_len h
    simp only [List.length_append, List.length_cons, List.length_nil] at e
    omega
end Go.Proofs.YtifnolomekhmfaaGreat.M
