/-
  What a copy leaves is small: no program in sight.
-/
import Derived.Test.YtepdfppbnepamabGreatFarI
namespace Go.Proofs.YtepdfppbnepamabGreat
open M

theorem far_small {rs : List Rs} {fr to : List ByteArray} {ov : Bool} {v : Int} {mv : Bool} (h : rs.length + sumR rs ≤ 1048576) : (farR rs fr to ov v mv).length + sumR (farR rs fr to ov v mv) ≤ 1048576 := by
  unfold farR
  by_cases hI : farI rs fr to ov v mv = 0
  · rw [if_pos hI]
    have hfar : far1 rs fr to ov v = 0 := by
      by_cases e : far1 rs fr to ov v = 0
      · exact e
      · unfold farI at hI
        rw [if_pos e] at hI
        exact absurd hI e
    obtain ⟨ht, hpf, hto, hv, hth, hap⟩ := far1_ok hfar
    have hts := ht
    unfold treeB at hts
    simp only [Bool.and_eq_true, decide_eq_true_eq, List.all_eq_true] at hts
    have h1 : ∀ r ∈ restL rs fr to mv, szR r ≤ 1000 := fun r hr => by
      unfold restL at hr
      split at hr
      · exact res_small (hts.2.1 r (List.mem_filter.1 (List.mem_filter.1 hr).1).1)
      · exact res_small (hts.2.1 r (List.mem_filter.1 hr).1)
    have h2 : ∀ r ∈ carryL rs fr to v, szR r ≤ 2000 := fun x hx => by
      unfold carryL at hx
      obtain ⟨r, hr, rfl⟩ := List.mem_map.1 hx
      have hsm := res_small (hts.2.1 r (deepL_mem.1 hr).1)
      have e1 : szR r = r.pa.length + sumL r.pa + r.bo.size + (r.ps.length + sumP r.ps) := rfl
      have e2 : szR (carryR fr to v r) = (to ++ r.pa.drop fr.length).length + sumL (to ++ r.pa.drop fr.length) + r.bo.size + (r.ps.length + sumP r.ps) := rfl
      have e3 : sumL (to ++ r.pa.drop fr.length) = sumL to + sumL (r.pa.drop fr.length) := by unfold sumL; rw [List.map_append, List.sum_append]
      have e4 : sumL r.pa = sumL (r.pa.take fr.length) + sumL (r.pa.drop fr.length) := by
        unfold sumL
        rw [← List.sum_append, ← List.map_append, List.take_append_drop]
      have e5 := sumL_small to (pathB_iff.1 hto).1
      have e6 := (pathB_iff.1 hto).2
      rw [e2, e3, List.length_append, List.length_drop]
      omega
    have hl1 := restL_len rs fr to mv
    have hl2 : (carryL rs fr to v).length ≤ 12 := (carry_sizes (fr := fr) (v := v) ht hto).1
    have bound : ∀ l : List Rs, (∀ r ∈ l, szR r ≤ 2000) → sumR l ≤ 2000 * l.length := by
      intro l
      induction l with
      | nil => intro _; simp [sumR]
      | cons r l ih =>
        intro hh
        have q1 := ih (fun x hx => hh x (List.mem_cons_of_mem _ hx))
        have q2 := hh r (List.mem_cons_self ..)
        have q3 : sumR (r :: l) = szR r + sumR l := by simp [sumR]
        rw [q3, List.length_cons]
        omega
    have hb := bound (wholeL (restL rs fr to mv) to (carryL rs fr to v)) (fun r hr => by
      unfold wholeL at hr
      rcases List.mem_append.1 hr with hr | hr
      · exact Nat.le_trans (h1 r (List.takeWhile_subset _ hr)) (by omega)
      · rcases List.mem_append.1 hr with hr | hr
        · exact h2 r hr
        · exact Nat.le_trans (h1 r (List.dropWhile_subset _ hr)) (by omega))
    have hlw : (wholeL (restL rs fr to mv) to (carryL rs fr to v)).length = (restL rs fr to mv).length + (carryL rs fr to v).length := by
      unfold wholeL
      rw [List.length_append, List.length_append]
      have := congrArg List.length (List.takeWhile_append_dropWhile (p := aheadB to) (l := restL rs fr to mv))
      rw [List.length_append] at this
      omega
    have := hts.1
    omega
  · rw [if_neg hI]; exact h
end Go.Proofs.YtepdfppbnepamabGreat
