/-
  How much what is handed back may be.
-/
import Derived.Test.YtifnolomekhmfaaGreatMathWhole
namespace Go.Proofs.YtifnolomekhmfaaGreat
open M

theorem filter_sumR (q : Rs → Bool) (rs : List Rs) : (rs.filter q).length + sumR (rs.filter q) ≤ rs.length + sumR rs := by
  induction rs with
  | nil => simp [sumR]
  | cons r l ih =>
    have h1 : sumR (r :: l) = szR r + sumR l := by simp [sumR]
    rw [h1, List.length_cons, List.filter_cons]
    cases e : q r
    · simp only [Bool.false_eq_true, if_false]
      omega
    · simp only [if_true]
      have h3 : sumR (r :: l.filter q) = szR r + sumR (l.filter q) := by simp [sumR]
      rw [List.length_cons, h3]
      omega
theorem without_sum (rs : List Rs) (p : List ByteArray) : (withoutL rs p).length + sumR (withoutL rs p) ≤ rs.length + sumR rs := filter_sumR _ rs

theorem short_of_sumK {rs : List Rs} (h : rs.length + sumR rs ≤ 1048576) : ∀ r ∈ rs, r.pa.length ≤ 1048576 ∧ r.ps.length ≤ 1048576 ∧ (∀ s ∈ r.pa, s.size ≤ 281474976710656) ∧ r.bo.size ≤ 281474976710656 ∧ ∀ p ∈ r.ps, p.1.size ≤ 281474976710656 ∧ p.2.1.size ≤ 281474976710656 ∧ p.2.2.size ≤ 281474976710656 := fun r hr => by
  have h1 := sumR_mem rs r hr
  have h2 : szR r = r.pa.length + sumL r.pa + r.bo.size + (r.ps.length + sumP r.ps) := rfl
  refine ⟨by omega, by omega, fun s hs => ?_, by omega, fun p hp => ?_⟩
  · have h3 : s.size ≤ sumL r.pa := sumS_mem r.pa s hs
    omega
  · have h3 := sumP_mem r.ps p hp
    have h4 : szP p = p.1.size + p.2.1.size + p.2.2.size := rfl
    omega
end Go.Proofs.YtifnolomekhmfaaGreat
