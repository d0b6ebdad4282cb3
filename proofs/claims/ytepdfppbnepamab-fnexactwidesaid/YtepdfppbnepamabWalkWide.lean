/-
  The walk of the law FnExactWide: for all things it returns true, and turns nothing that was there.
-/
import Derived.Test.YtepdfppbnepamabWide
import Derived.Test.YtepdfppbnepamabToRes
import Derived.Test.YtepdfppbnepamabEqRess
import Derived.Test.YtepdfppbnepamabSizesK
namespace Go.Proofs.Ytepdfppbnepamab
open Go.RowKit M
set_option linter.unusedVariables false

set_option maxRecDepth 100000 in
set_option maxHeartbeats 4000000 in
theorem FnExactWide_walk (a : Option Addr) (rs : List Rs) (cap : Nat) (hs : ShortT rs) (hl : rs.length ≤ maxLen) (w : World) (h : Rss w w.heap.size a rs) :
    Calls Try.prog 4 #[.slice a rs.length cap] w fun e w' => e = .returned (.bool true) ∧ Below w.heap.size w w' := by
  go_enter Try.func4, Try.ntmps4
  go_wp2_with fail
  refine (szResS_any a rs cap _ 1048576 w h (Nat.le_refl _) hs hl (Nat.le_refl _)).mono ?_
  rintro e w1 ⟨⟨z, rfl, hz⟩, b1⟩
  rcases hz with hz | ⟨m, rfl, hm⟩
  · go_wp2
    go_ret
    exact ⟨rfl, b1⟩
  have hR : rs.length + sumR rs ≤ 1048576 := by omega
  have hr2 : rs.length ≤ 1048576 := by omega
  have hS := short_of_sumK hR
  have hSm : ∀ r ∈ rs, r.pa.length ≤ maxLen ∧ r.ps.length ≤ maxLen := fun r hr => by
    have := hS r hr
    unfold maxLen
    omega
  have hwd : wideN rs ≤ 1048576 := by have := wide_le rs; omega
  have HRR := hide hR
  have HW1 := hide (fun a cap B W (x : Rss W B a rs) => specWide_any a rs cap B W x hr2 hwd)
  have HW2 := hide (fun a cap B W (x : Rss W B a rs) (hB : B ≤ W.heap.size) => wide_any a rs cap B W x hB hr2 hwd)
  generalize wideN rs = N at *
  clear hm hR
  go_wp2_with fail
  refine (toResS_any a rs cap _ w1 (h.below b1 (Nat.le_refl _)) b1.size HRR.out).mono ?_
  rintro e w2 ⟨rfl, ⟨pb2, qb2, o2⟩, b2⟩
  have k2 := b1.trans (b2.mono b1.size)
  have HQ := hide (HW1.out _ rs.length _ w2 (o2.rss hSm (Nat.le_refl _)))
  clear o2
  go_wp2_with fail
  refine HQ.out.mono ?_
  rintro e w2' ⟨rfl, hw⟩
  obtain rfl := hw.symm
  clear HQ
  go_wp2_with fail
  refine (toResS_any a rs cap _ w2 (h.below k2 (Nat.le_refl _)) k2.size HRR.out).mono ?_
  rintro e w3 ⟨rfl, ⟨pb3, qb3, o3⟩, b3⟩
  have k3 := k2.trans (b3.mono k2.size)
  have HQ := hide (HW2.out _ rs.length _ w3 (o3.rss hSm (Nat.le_refl _)) (Nat.le_refl _))
  go_wp2_with fail
  refine HQ.out.mono ?_
  rintro e w4 ⟨rfl, b4⟩
  have k4 := k3.trans (b4.mono k3.size)
  have o4 := o3.below b4
  have y4 := b4.size
  clear o3 HQ
  go_wp2_with fail
  refine (toResS_any a rs cap _ w4 (h.below k4 (Nat.le_refl _)) k4.size HRR.out).mono ?_
  rintro e w5 ⟨rfl, ⟨pb5, qb5, o5⟩, b5⟩
  have k5 := k4.trans (b5.mono k4.size)
  have o6 := o4.below b5
  have y5 := b5.size
  have HE := hide (eqResS_any _ _ rs rs rs.length rs.length _ _ w5 (o6.rss hSm (by omega)) (o5.rss hSm (Nat.le_refl _)) (by omega) (Nat.le_refl _) hl hl)
  clear o4 o5 o6
  go_wp2_with fail
  refine HE.out.mono ?_
  rintro e w6 ⟨rfl, b6⟩
  rw [sameT_refl]
  have k6 := k5.trans (b6.mono k5.size)
  clear HE
  go_wp2
  go_ret
  exact ⟨rfl, k6⟩
end Go.Proofs.Ytepdfppbnepamab
