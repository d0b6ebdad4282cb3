/-
  The walk of the law FnExactLessPath: for every two lists of texts it returns true, and turns nothing that was there.
-/
import Derived.Test.YtehoilheihpopaaLess
import Derived.Test.YtehoilheihpopaaSpecLess
import Derived.Test.YtehoilheihpopaaLawStrs
import Derived.Test.YtehoilheihpopaaEqStrs
namespace Go.Proofs.Ytehoilheihpopaa
open Go.RowKit M
set_option linter.unusedVariables false

set_option maxHeartbeats 1000000 in
theorem FnExactLessPath_walk (a : Option Addr) (ss : List ByteArray) (cap : Nat) (hs : Short ss) (hl : ss.length ≤ maxLen) (b : Option Addr) (tt : List ByteArray) (cap' : Nat) (hs' : Short tt) (hl' : tt.length ≤ maxLen) (w : World) (h : Strs w w.heap.size a ss) (h' : Strs w w.heap.size b tt) :
    Calls Try.prog 4 #[.slice a ss.length cap, .slice b tt.length cap'] w fun e w' => e = .returned (.bool true) ∧ Below w.heap.size w w' := by
  go_enter Try.func4, Try.ntmps4
  go_wp2_with fail
  refine (szStringS_any a ss cap _ 1048576 w h hs hl (Nat.le_refl _)).mono ?_
  rintro e w1 ⟨⟨z, rfl, hz⟩, hw⟩
  obtain rfl := hw.symm
  rcases hz with hz | ⟨m, rfl, hm⟩
  · go_wp2
    go_ret
    exact ⟨rfl, Below.refl _ _⟩
  have hl2 : ss.length ≤ 1048576 := by omega
  have hm2 : m ≤ 1048576 := by omega
  clear hm
  go_wp2_with fail
  refine (szStringS_any b tt cap' _ m w h' hs' hl' hm2).mono ?_
  rintro e w1 ⟨⟨z, rfl, hz⟩, hw⟩
  obtain rfl := hw.symm
  rcases hz with hz | ⟨m2, rfl, hm⟩
  · go_wp2
    go_ret
    exact ⟨rfl, Below.refl _ _⟩
  have hl2' : tt.length ≤ 1048576 := by omega
  clear hm
  go_wp2_with fail
  refine (toStringS_any a ss cap _ w h (Nat.le_refl _) hl2).mono ?_
  rintro e w1 ⟨rfl, s1, b1, z1⟩
  go_wp2_with fail
  refine (toStringS_any b tt cap' _ w1 (h'.below b1 (Nat.le_refl _)) b1.size hl2').mono ?_
  rintro e w2 ⟨rfl, s2, b2, z2⟩
  have c2 := b1.trans (b2.mono b1.size)
  go_wp2_with fail
  refine (specLessPath_any _ _ ss tt _ _ _ _ w2 (s1.below b2 (by omega)) s2 hl hl').mono ?_
  rintro e w3 ⟨rfl, b3⟩
  have c3 := c2.trans (b3 _)
  go_wp2_with fail
  refine (toStringS_any a ss cap _ w3 (h.below c3 (Nat.le_refl _)) c3.size hl2).mono ?_
  rintro e w4 ⟨rfl, s4, b4, z4⟩
  have c4 := c3.trans (b4.mono c3.size)
  go_wp2_with fail
  refine (toStringS_any b tt cap' _ w4 (h'.below c4 (Nat.le_refl _)) c4.size hl2').mono ?_
  rintro e w5 ⟨rfl, s5, b5, z5⟩
  have c5 := c4.trans (b5.mono c4.size)
  go_wp2_with fail
  refine (lessPath_any _ _ ss tt _ _ _ _ w5 (s4.below b5 (by omega)) s5 hl hl').mono ?_
  rintro e w6 ⟨rfl, hw6⟩
  have b6 : ∀ D, Below D w5 w6 := fun D => by rw [hw6]; exact Below.refl _ _
  clear hw6
  have c6 := c5.trans (b6 _)
  have t4 := (s4.below b5 (by omega)).below (b6 (w3.heap.size + 1)) (Nat.le_refl _)
  have t5 := s5.below (b6 (w4.heap.size + 1)) (Nat.le_refl _)
  have z6 := (b6 0).size
  go_wp2_with fail
  refine (toStringS_any a ss cap _ w6 (h.below c6 (Nat.le_refl _)) c6.size hl2).mono ?_
  rintro e w7 ⟨rfl, s7, b7, z7⟩
  have c7 := c6.trans (b7.mono c6.size)
  go_wp2_with fail
  refine (eqStringS_any _ _ ss ss _ _ _ _ w7 (t4.below b7 (by omega)) s7 hl hl).mono ?_
  rintro e w8 ⟨rfl, b8⟩
  rw [sameL_refl]
  have c8 := c7.trans (b8 _)
  have z8 := (b8 0).size
  go_wp2_with fail
  refine (toStringS_any b tt cap' _ w8 (h'.below c8 (Nat.le_refl _)) c8.size hl2').mono ?_
  rintro e w9 ⟨rfl, s9, b9, z9⟩
  have c9 := c8.trans (b9.mono c8.size)
  go_wp2_with fail
  refine (eqStringS_any _ _ tt tt _ _ _ _ w9 (((t5.below b7 (by omega)).below (b8 (w4.heap.size + 1)) (Nat.le_refl _)).below b9 (by omega)) s9 hl' hl').mono ?_
  rintro e w10 ⟨rfl, b10⟩
  rw [sameL_refl]
  go_wp2
  go_ret
  exact ⟨rfl, c9.trans (b10 _)⟩
end Go.Proofs.Ytehoilheihpopaa
