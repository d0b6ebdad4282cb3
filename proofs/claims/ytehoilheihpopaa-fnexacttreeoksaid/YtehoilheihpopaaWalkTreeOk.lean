/-
  The walk of the law FnExactTreeOk: for all things it returns true, and turns nothing that was there.
-/
import Derived.Test.YtehoilheihpopaaTreeOk
import Derived.Test.YtehoilheihpopaaSpecTreeOk
import Derived.Test.YtehoilheihpopaaToRes
import Derived.Test.YtehoilheihpopaaEqRess
namespace Go.Proofs.Ytehoilheihpopaa
open Go.RowKit M
set_option linter.unusedVariables false

theorem short_of_sumT {rs : List Rs} (h : rs.length + sumR rs ≤ 1048576) : ∀ r ∈ rs, r.pa.length ≤ 1048576 ∧ r.ps.length ≤ 1048576 := fun r hr => by
  have h1 := sumR_mem rs r hr
  have h2 : szR r = r.pa.length + sumL r.pa + r.bo.size + (r.ps.length + sumP r.ps) := rfl
  omega

set_option maxHeartbeats 2000000 in
theorem FnExactTreeOk_walk (a : Option Addr) (rs : List Rs) (cap : Nat) (hs : ShortT rs) (hl : rs.length ≤ maxLen) (w : World) (h : Rss w w.heap.size a rs) :
    Calls Try.prog 6 #[.slice a rs.length cap] w fun e w' => e = .returned (.bool true) ∧ Below w.heap.size w w' := by
  go_enter Try.func6, Try.ntmps6
  go_wp2_with fail
  refine (szResS_any a rs cap _ 1048576 w h (Nat.le_refl _) hs hl (Nat.le_refl _)).mono ?_
  rintro e w1 ⟨⟨z, rfl, hz⟩, b1⟩
  rcases hz with hz | ⟨m, rfl, hm⟩
  · go_wp2
    go_ret
    exact ⟨rfl, b1⟩
  have hR : rs.length + sumR rs ≤ 1048576 := by omega
  have hS := short_of_sumT hR
  have hSm : ∀ r ∈ rs, r.pa.length ≤ maxLen ∧ r.ps.length ≤ maxLen := fun r hr => by
    have := hS r hr
    unfold maxLen
    omega
  have HRR := hide hR
  clear hm hR
  go_wp2_with fail
  refine (toResS_any a rs cap _ w1 (h.below b1 (Nat.le_refl _)) b1.size HRR.out).mono ?_
  rintro e w2 ⟨rfl, ⟨pb2, qb2, o2⟩, b2⟩
  have k2 := b1.trans (b2.mono b1.size)
  have HS1 := hide (specTreeOk_any _ rs rs.length _ w2 (o2.rss hSm (Nat.le_refl _)) (Nat.le_refl _) hs hl (fun r hr => (hS r hr).1))
  clear o2
  go_wp2_with fail
  refine HS1.out.mono ?_
  rintro e w3 ⟨rfl, b3⟩
  have k3 := k2.trans (b3.mono k2.size)
  clear HS1
  go_wp2_with fail
  refine (toResS_any a rs cap _ w3 (h.below k3 (Nat.le_refl _)) k3.size HRR.out).mono ?_
  rintro e w4 ⟨rfl, ⟨pb4, qb4, o4⟩, b4⟩
  have k4 := k3.trans (b4.mono k3.size)
  have HS2 := hide (treeOk_any _ rs rs.length _ w4 (o4.rss hSm (Nat.le_refl _)) (Nat.le_refl _) hs hl)
  go_wp2_with fail
  refine HS2.out.mono ?_
  rintro e w5 ⟨rfl, b5⟩
  have k5 := k4.trans (b5.mono k4.size)
  have o5 := o4.below b5
  have y5 := b5.size
  clear HS2 o4
  go_wp2_with fail
  refine (toResS_any a rs cap _ w5 (h.below k5 (Nat.le_refl _)) k5.size HRR.out).mono ?_
  rintro e w6 ⟨rfl, ⟨pb6, qb6, o6⟩, b6⟩
  have k6 := k5.trans (b6.mono k5.size)
  have x6 := o5.below b6
  have y6 := b6.size
  have HE := hide (eqResS_any _ _ rs rs rs.length rs.length _ _ w6 (x6.rss hSm (Nat.le_refl _)) (o6.rss hSm (Nat.le_refl _)) (by omega) (Nat.le_refl _) hl hl)
  clear x6 o6 o5
  go_wp2_with fail
  refine HE.out.mono ?_
  rintro e w7 ⟨rfl, b7⟩
  rw [sameT_refl]
  go_wp2
  go_ret
  exact ⟨rfl, k6.trans (b7.mono k6.size)⟩
end Go.Proofs.Ytehoilheihpopaa
