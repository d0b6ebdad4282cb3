/-
  The walk of the law FnExactIsColl: for all things and every path it returns true, and turns nothing that was there.
-/
import Derived.Test.YtehoilheihpopabIsColl
import Derived.Test.YtehoilheihpopabSpecIsColl
import Derived.Test.YtehoilheihpopabToRes
import Derived.Test.YtehoilheihpopabEqRess
namespace Go.Proofs.Ytehoilheihpopab
open Go.RowKit M
set_option linter.unusedVariables false

theorem short_of_sum {rs : List Rs} (h : rs.length + sumR rs ≤ 1048576) : ∀ r ∈ rs, r.pa.length ≤ maxLen ∧ r.ps.length ≤ maxLen := fun r hr => by
  have h1 := sumR_mem rs r hr
  have h2 : szR r = r.pa.length + sumL r.pa + r.bo.size + (r.ps.length + sumP r.ps) := rfl
  unfold maxLen
  omega

set_option maxHeartbeats 2000000 in
theorem FnExactIsColl_walk (a : Option Addr) (rs : List Rs) (cap : Nat) (hs : ShortT rs) (hl : rs.length ≤ maxLen) (b : Option Addr) (tt : List ByteArray) (cap' : Nat) (hs' : Short tt) (hl' : tt.length ≤ maxLen) (w : World) (h : Rss w w.heap.size a rs) (h' : Strs w w.heap.size b tt) :
    Calls Try.prog 3 #[.slice a rs.length cap, .slice b tt.length cap'] w fun e w' => e = .returned (.bool true) ∧ Below w.heap.size w w' := by
  go_enter Try.func3, Try.ntmps3
  go_wp2_with fail
  refine (szResS_any a rs cap _ 1048576 w h (Nat.le_refl _) hs hl (Nat.le_refl _)).mono ?_
  rintro e w1 ⟨⟨z, rfl, hz⟩, b1⟩
  rcases hz with hz | ⟨m, rfl, hm⟩
  · go_wp2
    go_ret
    exact ⟨rfl, b1⟩
  have hm2 : m ≤ 1048576 := by omega
  have hR : rs.length + sumR rs ≤ 1048576 := by omega
  have hS := short_of_sum hR
  have HRR := hide hR
  clear hm hR
  go_wp2_with fail
  refine (szStringS_any b tt cap' _ m w1 (h'.below b1 (Nat.le_refl _)) hs' hl' hm2).mono ?_
  rintro e w1' ⟨⟨z, rfl, hz⟩, hw⟩
  obtain rfl := hw.symm
  rcases hz with hz | ⟨m2, rfl, hm⟩
  · go_wp2
    go_ret
    exact ⟨rfl, b1⟩
  have hl2' : tt.length ≤ 1048576 := by omega
  clear hm
  go_wp2_with fail
  refine (toResS_any a rs cap _ w1 (h.below b1 (Nat.le_refl _)) b1.size HRR.out).mono ?_
  rintro e w2 ⟨rfl, ⟨pb2, qb2, o2⟩, b2⟩
  have k2 := b1.trans (b2.mono b1.size)
  go_wp2_with fail
  refine (toStringS_any b tt cap' _ w2 (h'.below k2 (Nat.le_refl _)) k2.size hl2').mono ?_
  rintro e w3 ⟨rfl, s3, b3, z3⟩
  have k3 := k2.trans (b3.mono k2.size)
  have r3 := (o2.below b3).rss hS (Nat.le_refl _)
  have y3 := b3.size
  have HS1 := hide (specIsColl_any _ rs rs.length _ _ tt tt.length _ w3 r3 s3 hl hl')
  clear r3 o2
  go_wp2_with fail
  refine HS1.out.mono ?_
  rintro e w4 ⟨rfl, b4'⟩
  have b4 : Below w3.heap.size w3 w4 := b4' _
  have k4 := k3.trans (b4.mono k3.size)
  go_wp2_with fail
  refine (toResS_any a rs cap _ w4 (h.below k4 (Nat.le_refl _)) k4.size HRR.out).mono ?_
  rintro e w5 ⟨rfl, ⟨pb5, qb5, o5⟩, b5⟩
  have k5 := k4.trans (b5.mono k4.size)
  go_wp2_with fail
  refine (toStringS_any b tt cap' _ w5 (h'.below k5 (Nat.le_refl _)) k5.size hl2').mono ?_
  rintro e w6 ⟨rfl, s6, b6, z6⟩
  have k6 := k5.trans (b6.mono k5.size)
  have o6 := o5.below b6
  have r6 := o6.rss hS (Nat.le_refl _)
  have y6 := b6.size
  have HS2 := hide (isColl_any _ rs rs.length _ _ tt tt.length _ w6 r6 s6 hl hl' (by omega) (by omega))
  clear r6 o5
  go_wp2_with fail
  refine HS2.out.mono ?_
  rintro e w7 ⟨rfl, b7⟩
  have k7 := k6.trans (b7.mono k6.size)
  have o7 := o6.below b7
  have s7 := s6.below b7 (by omega)
  have y7 := b7.size
  go_wp2_with fail
  refine (toResS_any a rs cap _ w7 (h.below k7 (Nat.le_refl _)) k7.size HRR.out).mono ?_
  rintro e w8 ⟨rfl, ⟨pb8, qb8, o8⟩, b8⟩
  have k8 := k7.trans (b8.mono k7.size)
  have r8 := (o7.below b8).rss hS (Nat.le_refl _)
  have y8 := b8.size
  have x8 := o8.rss hS (Nat.le_refl _)
  have s8 := s7.below b8 (by omega)
  have HE := hide (eqResS_any _ _ rs rs rs.length rs.length _ _ w8 r8 x8 (by omega) (Nat.le_refl _) hl hl)
  clear r8 x8
  go_wp2_with fail
  refine HE.out.mono ?_
  rintro e w9 ⟨rfl, b9⟩
  rw [sameT_refl]
  have k9 := k8.trans (b9.mono k8.size)
  have s9 := s8.below b9 (by omega)
  go_wp2_with fail
  refine (toStringS_any b tt cap' _ w9 (h'.below k9 (Nat.le_refl _)) k9.size hl2').mono ?_
  rintro e w10 ⟨rfl, s10, b10, z10⟩
  have k10 := k9.trans (b10.mono k9.size)
  have y9 := b9.size
  go_wp2_with fail
  refine (eqStringS_any _ _ tt tt _ _ _ _ w10 (s9.below b10 (by omega)) s10 hl' hl').mono ?_
  rintro e w11 ⟨rfl, b11⟩
  rw [sameL_refl]
  go_wp2
  go_ret
  exact ⟨rfl, k10.trans (b11 _)⟩
end Go.Proofs.Ytehoilheihpopab
