/-
  Right things are small: no program in sight.
-/
import Derived.Test.YtifnolomekhmfaaGreatMathOps
import Derived.Test.YtifnolomekhmfaaGreatMathPath
namespace Go.Proofs.YtifnolomekhmfaaGreat
open M

theorem sumL_small : ∀ l : List ByteArray, (∀ s ∈ l, nameB s = true) → sumL l ≤ 8 * l.length
  | [], _ => by simp [sumL]
  | s :: l, hl => by
    have h1 := sumL_small l (fun x hx => hl x (List.mem_cons_of_mem _ hx))
    have h3 := hl s (List.mem_cons_self ..)
    unfold nameB inB at h3
    simp only [Bool.and_eq_true, decide_eq_true_eq] at h3
    have h4 : sumL (s :: l) = s.size + sumL l := by simp [sumL]
    rw [h4, List.length_cons]
    omega
theorem sumP_small : ∀ l : List Pp, (∀ s ∈ l, propB s = true) → sumP l ≤ 60 * l.length
  | [], _ => by simp [sumP]
  | s :: l, hl => by
    have h1 := sumP_small l (fun x hx => hl x (List.mem_cons_of_mem _ hx))
    have h4 : sumP (s :: l) = szP s + sumP l := by simp [sumP]
    have h5 : szP s ≤ 60 := prop_small (hl s (List.mem_cons_self ..))
    rw [h4, List.length_cons]
    omega
theorem res_small {r : Rs} (h : resB r = true) : szR r ≤ 1000 := by
  unfold resB at h
  simp only [Bool.and_eq_true, decide_eq_true_eq] at h
  obtain ⟨_, hp, hb, _, _, hq⟩ := h
  have h2 : szR r = r.pa.length + sumL r.pa + r.bo.size + (r.ps.length + sumP r.ps) := rfl
  unfold pathB at hp
  rw [Bool.and_eq_true, decide_eq_true_eq, List.all_eq_true] at hp
  have h3 := sumL_small _ hp.1
  unfold propsB at hq
  simp only [Bool.and_eq_true, decide_eq_true_eq, List.all_eq_true] at hq
  have h4 := sumP_small _ hq.2.1
  have := hp.2
  have := hq.1
  omega
theorem sumR_small : ∀ l : List Rs, (∀ r ∈ l, resB r = true) → sumR l ≤ 1000 * l.length
  | [], _ => by simp [sumR]
  | r :: l, hl => by
    have h1 := sumR_small l (fun x hx => hl x (List.mem_cons_of_mem _ hx))
    have h4 : sumR (r :: l) = szR r + sumR l := by simp [sumR]
    have h5 := res_small (hl r (List.mem_cons_self ..))
    rw [h4, List.length_cons]
    omega
theorem tree_small {rs : List Rs} (h : treeB rs = true) : rs.length + sumR rs ≤ 20000 := by
  unfold treeB at h
  simp only [Bool.and_eq_true, decide_eq_true_eq, List.all_eq_true] at h
  have := sumR_small rs h.2.1
  have := h.1
  omega
end Go.Proofs.YtifnolomekhmfaaGreat
