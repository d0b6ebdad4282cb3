/-
  What stands on a path of right things: no program in sight.
-/
import Derived.Test.YtifnolomekhmfaaGreatMathPutR
import Derived.Test.YtifnolomekhmfaaGreatMathKids
namespace Go.Proofs.YtifnolomekhmfaaGreat
open M

theorem kid_above {p : List ByteArray} {r : Rs} (h : kidB p r = true) : aboveL r.pa = p := by
  unfold kidB underB at h
  simp only [Bool.and_eq_true, decide_eq_true_eq] at h
  obtain ⟨h1, _, h3⟩ := h
  unfold sameL at h3
  unfold aboveL
  rw [h1, Nat.add_sub_cancel]
  exact of_decide_eq_true h3
theorem kids_mem {rs : List Rs} {p s : List ByteArray} (h : s ∈ kidsL rs p) : ∃ r ∈ rs, r.pa = s ∧ kidB p r = true := by
  unfold kidsL at h
  obtain ⟨r, hr, rfl⟩ := List.mem_map.1 h
  obtain ⟨h1, h2⟩ := List.mem_filter.1 hr
  exact ⟨r, h1, rfl, h2⟩
theorem kids_above {rs : List Rs} {p s : List ByteArray} (h : s ∈ kidsL rs p) : aboveL s = p := by
  obtain ⟨r, _, rfl, hk⟩ := kids_mem h
  exact kid_above hk
theorem findI_there {rs : List Rs} {r : Rs} (h : r ∈ rs) : 0 ≤ findI rs r.pa := by
  rcases findI_cases rs r.pa with e | ⟨k, hk, e, _⟩
  · exfalso
    unfold findI at e
    by_cases hlt : rs.findIdx (isAt r.pa) < rs.length
    · rw [if_pos hlt] at e; omega
    · exact hlt (List.findIdx_lt_length_of_exists ⟨_, h, by unfold isAt; exact sameL_refl _⟩)
  · rw [e]; omega
theorem kids_found {rs : List Rs} {p s : List ByteArray} (h : s ∈ kidsL rs p) : 0 ≤ findI rs s := by
  obtain ⟨r, hr, rfl, _⟩ := kids_mem h
  exact findI_there hr
theorem kids_asc {rs : List Rs} (h : Asc rs) (p : List ByteArray) : (kidsL rs p).Pairwise fun a b => lessL a b = true := by
  unfold kidsL
  rw [List.pairwise_map]
  exact List.Pairwise.filter _ h
theorem kids_next {rs : List Rs} (h : Asc rs) (p : List ByteArray) (i : Nat) (hi : i + 1 < (kidsL rs p).length) : lessL (kidsL rs p)[i] (kidsL rs p)[i + 1] = true := by
  have := kids_asc h p
  rw [List.pairwise_iff_getElem] at this
  exact this i (i + 1) (by omega) hi (Nat.lt_succ_self _)
/-- As many as are deep there of one name more. -/
theorem kids_count (rs : List Rs) (p : List ByteArray) : (kidsL rs p).length = ((deepL rs p).filter fun r => decide (r.pa.length = p.length + 1)).length := by
  unfold kidsL deepL
  rw [List.length_map, List.filter_filter]
  congr 1
  refine List.filter_congr fun r _ => ?_
  unfold kidB deepB
  by_cases h : r.pa.length = p.length + 1
  · have hs : sameL r.pa p = false := sameL_len (by omega)
    simp [h, hs]
  · simp [h]
theorem kids_shelf {rs : List Rs} (h : treeB rs = true) {p s : List ByteArray} (hk : s ∈ kidsL rs p) : collB rs p = true := by
  obtain ⟨r, hr, _, hb⟩ := kids_mem hk
  unfold treeB at h
  simp only [Bool.and_eq_true, decide_eq_true_eq, List.all_eq_true] at h
  have := h.2.2.2 r hr
  unfold onB at this
  rw [kid_above hb] at this
  exact this
theorem tree_asc {rs : List Rs} (h : treeB rs = true) : Asc rs := by
  unfold treeB at h
  simp only [Bool.and_eq_true, decide_eq_true_eq, List.all_eq_true] at h
  exact asc_of h.2.2.1
end Go.Proofs.YtifnolomekhmfaaGreat
