/-
  The walk of the law FnExactPropOf: for every input it returns true, and turns nothing that was there.
-/
import Derived.Test.YtlcmkjpdmghohaaPropOfI
import Derived.Test.YtlcmkjpdmghohaaSpecPropOf
import Derived.Test.YtlcmkjpdmghohaaLawProps
import Derived.Test.YtlcmkjpdmghohaaEqProps
namespace Go.Proofs.Ytlcmkjpdmghohaa
open Go.RowKit M
set_option linter.unusedVariables false

theorem val_size {ps : List Pp} (h : sumP ps ≤ 1048576) (x y : ByteArray) : (valP (knowL ps x y)).size ≤ 281474976710656 := by
  cases e : knowL ps x y with
  | none => exact Nat.zero_le _
  | some p =>
    have hm : p ∈ ps := List.mem_of_find?_eq_some e
    have := sumP_mem ps p hm
    show p.2.2.size ≤ _
    unfold szP at this
    omega

set_option maxHeartbeats 2000000 in
theorem FnExactPropOf_walk (a : Option Addr) (ps : List Pp) (cap : Nat) (hs : ShortPs ps) (hl : ps.length ≤ maxLen) (x : ByteArray) (hx : x.size ≤ maxLen) (y : ByteArray) (hy : y.size ≤ maxLen) (w : World) (h : Pps w w.heap.size a ps) :
    Calls Try.prog 3 #[.slice a ps.length cap, .string x, .string y] w fun e w' => e = .returned (.bool true) ∧ Below w.heap.size w w' := by
  by_cases hx1 : 1048576 < x.size
  · have hx2 : (1048576 : Int) < (x.size : Int) := by omega
    go_enter Try.func3, Try.ntmps3
    go_wp2
    go_ret
    exact ⟨rfl, Below.refl _ _⟩
  by_cases hy1 : 1048576 < y.size
  · go_enter Try.func3, Try.ntmps3
    go_wp2
    go_ret
    exact ⟨rfl, Below.refl _ _⟩
  go_enter Try.func3, Try.ntmps3
  go_wp2_with fail
  refine (szPropS_any a ps cap _ 1048576 w h (Nat.le_refl _) hs hl (Nat.le_refl _)).mono ?_
  rintro e w1 ⟨⟨z, rfl, hz⟩, b1⟩
  rcases hz with hz | ⟨m, rfl, hm⟩
  · go_wp2
    go_ret
    exact ⟨rfl, b1⟩
  have hl2 : ps.length ≤ 1048576 := by omega
  have hv := val_size (ps := ps) (by omega) x y
  have hvm : (valP (knowL ps x y)).size ≤ maxLen := by unfold maxLen; omega
  clear hm
  go_wp2_with fail
  refine (toPropS_any a ps cap _ w1 (h.below b1 (Nat.le_refl _)) b1.size hl2).mono ?_
  rintro e w2 ⟨rfl, r2, b2⟩
  have k2 := b1.trans (b2.mono b1.size)
  go_wp2_with fail
  refine (specPropOf_any _ ps _ w2.heap.size x y w2 (r2.pps r2.1) hl).mono ?_
  rintro e w3 ⟨rfl, hw3⟩
  obtain rfl := hw3.symm
  go_wp2_with fail
  refine (toPropS_any a ps cap _ w2 (h.below k2 (Nat.le_refl _)) k2.size hl2).mono ?_
  rintro e w4 ⟨rfl, r4, b4⟩
  have k4 := k2.trans (b4.mono k2.size)
  go_wp2_with fail
  refine (propOf_any _ ps _ w4.heap.size x y w4 (r4.pps r4.1) (Nat.le_refl _) hs hl2 hx hy hv).mono ?_
  rintro e w5 ⟨rfl, b5⟩
  have k5 := k4.trans (b5.mono k4.size)
  have r5 := r4.below b5
  generalize (knowL ps x y).isSome = zz at *
  go_wp2_with fail
  refine (toPropS_any a ps cap _ w5 (h.below k5 (Nat.le_refl _)) k5.size hl2).mono ?_
  rintro e w6 ⟨rfl, r6, b6⟩
  have k6 := k5.trans (b6.mono k5.size)
  have x6 := r5.below b6
  go_wp2_with fail
  refine (eqPropS_any _ _ ps ps _ _ w6.heap.size w6.heap.size w6 (x6.pps x6.1) (r6.pps r6.1) (Nat.le_refl _) (Nat.le_refl _) hl hl).mono ?_
  rintro e w7 ⟨rfl, b7⟩
  rw [sameP_refl]
  go_wp2
  go_ret
  exact ⟨rfl, k6.trans (b7.mono k6.size)⟩
end Go.Proofs.Ytlcmkjpdmghohaa
