/-
  The walk of the law FnExactPathText: for every list of texts it returns true, and turns nothing that was there.
-/
import Derived.Test.YtnioamheddedeabPathText
import Derived.Test.YtnioamheddedeabLawStrs
import Derived.Test.YtnioamheddedeabEqStrs
namespace Go.Proofs.Ytnioamheddedeab
open Go.RowKit M
set_option linter.unusedVariables false

set_option maxHeartbeats 1000000 in
theorem FnExactPathText_walk (a : Option Addr) (ss : List ByteArray) (cap : Nat) (hs : Short ss) (hl : ss.length ≤ maxLen) (w : World) (h : Strs w w.heap.size a ss) :
    Calls Try.prog 3 #[.slice a ss.length cap] w fun e w' => e = .returned (.bool true) ∧ Below w.heap.size w w' := by
  go_enter Try.func3, Try.ntmps3
  go_wp2_with fail
  refine (szStringS_any a ss cap _ 1048576 w h hs hl (Nat.le_refl _)).mono ?_
  rintro e w1 ⟨⟨z, rfl, hz⟩, hw⟩
  obtain rfl := hw.symm
  rcases hz with hz | ⟨m, rfl, hm⟩
  · go_wp2
    go_ret
    exact ⟨rfl, Below.refl _ _⟩
  · have hl2 : ss.length ≤ 1048576 := by omega
    have hB0 := Below.refl w.heap.size w
    clear hm
    go_wp2_with fail
    refine (toStringS_any a ss cap _ w h (Nat.le_refl _) hl2).mono ?_
    rintro e w1 ⟨rfl, s1, b1, z1⟩
    go_wp2_with fail
    refine (specPathText_any _ ss _ _ w1 s1 (by omega) hs hl).mono ?_
    rintro e wx ⟨rfl, bx⟩
    have b1 := b1.trans (bx.mono b1.size)
    have s1 := s1.below bx (by omega)
    go_wp2_with fail
    refine (toStringS_any a ss cap _ wx (h.below b1 (Nat.le_refl _)) b1.size hl2).mono ?_
    rintro e w2 ⟨rfl, s2, b2, z2⟩
    go_wp2_with fail
    refine (pathText_any _ ss _ w2 (s2.mono (by omega)) hs hl).mono ?_
    rintro e w3 ⟨rfl, b3⟩
    go_wp2_with fail
    refine (toStringS_any a ss cap _ w3 ((h.below b1 (Nat.le_refl _)).below (b2.trans (b3.mono (by omega))) (by have := b1.size; omega)) (by have := b1.size; have := b2.size; have := b3.size; omega) hl2).mono ?_
    rintro e w4 ⟨rfl, s4, b4, z4⟩
    go_wp2_with fail
    refine (eqStringS_any _ _ ss ss _ _ (wx.heap.size + 1) _ w4 ((s2.below b3 (by omega)).below b4 (by have := b3.size; omega)) s4 hl hl).mono ?_
    rintro e w5 ⟨rfl, b5⟩
    rw [sameL_refl]
    go_wp2
    go_ret
    exact ⟨rfl, b1.trans ((b2.mono b1.size).trans ((b3.mono (by have := b1.size; have := b2.size; omega)).trans ((b4.mono (by have := b1.size; have := b2.size; have := b3.size; omega)).trans (b5 _))))⟩
end Go.Proofs.Ytnioamheddedeab
