/-
  What is left where something is taken away: no program in sight.
-/
import Derived.Test.YtclnpfpaabmkcaaGreatMathRem
namespace Go.Proofs.YtclnpfpaabmkcaaGreat
open M

theorem without_mem {rs : List Rs} {p : List ByteArray} {r : Rs} : r ∈ withoutL rs p ↔ r ∈ rs ∧ deepB p r = false := by
  unfold withoutL
  rw [List.mem_filter]
  simp
/-- What is left of right things is right. -/
theorem without_tree {rs : List Rs} {p : List ByteArray} (h : treeB rs = true) : treeB (withoutL rs p) = true := by
  have ha := tree_asc h
  unfold treeB at h
  simp only [Bool.and_eq_true, decide_eq_true_eq, List.all_eq_true] at h
  obtain ⟨h1, h2, h3, h4⟩ := h
  have hw := without_asc ha p
  unfold treeB
  simp only [Bool.and_eq_true, decide_eq_true_eq, List.all_eq_true]
  refine ⟨Nat.le_trans (List.length_filter_le _ _) h1, fun r hr => h2 r (without_mem.1 hr).1, asc_to hw, fun r hr => ?_⟩
  obtain ⟨hm, hd⟩ := without_mem.1 hr
  have hon := h4 r hm
  unfold onB at hon ⊢
  rw [coll_iff ha] at hon
  rw [coll_iff hw]
  rcases hon with h0 | ⟨s, hs, he, hc⟩
  · exact .inl h0
  · refine .inr ⟨s, without_mem.2 ⟨hs, ?_⟩, he, hc⟩
    cases e : deepB p s
    · rfl
    · have h5 := deep_iff.1 e
      rw [he] at h5
      have h6 : p <+: r.pa := h5.trans (List.take_prefix _ _)
      rw [deep_iff.2 h6] at hd
      cases hd
/-- It is gone just where it was, or stood under it. -/
theorem without_find {rs : List Rs} {p : List ByteArray} {y : Rs} (hy : y ∈ rs) : findI (withoutL rs p) y.pa < 0 ↔ deepB p y = true := by
  constructor
  · intro hf
    cases e : deepB p y
    · exact absurd rfl (not_there hf y (without_mem.2 ⟨hy, e⟩))
    · rfl
  · intro hd
    rcases findI_cases (withoutL rs p) y.pa with e | ⟨k, hk, _, hs⟩
    · omega
    · exfalso
      have hm := List.getElem_mem hk
      have hd2 := (without_mem.1 hm).2
      have he : (withoutL rs p)[k].pa = y.pa := by unfold sameL at hs; exact of_decide_eq_true hs
      have h1 := deep_iff.1 hd
      rw [← he] at h1
      rw [deep_iff.2 h1] at hd2
      cases hd2
theorem without_count (rs : List Rs) (p : List ByteArray) : (withoutL rs p).length + (deepL rs p).length = rs.length := by
  unfold withoutL deepL
  induction rs with
  | nil => rfl
  | cons r l ih =>
    rw [List.filter_cons, List.filter_cons]
    cases deepB p r <;> simp <;> omega
theorem without_deep (rs : List Rs) (p : List ByteArray) : deepL (withoutL rs p) p = [] := by
  unfold deepL
  rw [List.filter_eq_nil_iff]
  intro r hr
  rw [(without_mem.1 hr).2]
  simp
end Go.Proofs.YtclnpfpaabmkcaaGreat
