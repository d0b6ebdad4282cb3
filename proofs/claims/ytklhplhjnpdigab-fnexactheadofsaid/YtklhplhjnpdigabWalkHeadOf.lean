/-
  The walk of the law FnExactHeadOf: for every list of heads and every name it returns true, and turns nothing that was there.
-/
import Derived.Test.YtklhplhjnpdigabHeadOf
import Derived.Test.YtklhplhjnpdigabEqHeads
namespace Go.Proofs.Ytklhplhjnpdigab
open Go.RowKit M
set_option linter.unusedVariables false

set_option maxHeartbeats 1000000 in
theorem FnExactHeadOf_walk (a : Option Addr) (hs : List Hd) (cap : Nat) (hsh : ShortH hs) (hl : hs.length ≤ maxLen) (name : ByteArray) (hn : name.size ≤ maxLen) (w : World) (h : Hds w w.heap.size a hs) :
    Calls Try.prog 3 #[.slice a hs.length cap, .string name] w fun e w' => e = .returned (.bool true) ∧ Below w.heap.size w w' := by
  have hn' := hn
  unfold maxLen at hn'
  by_cases hbig : (1048576 : Int) < name.size
  · go_enter Try.func3, Try.ntmps3
    go_wp2
    go_ret
    exact ⟨rfl, Below.refl _ _⟩
  · go_enter Try.func3, Try.ntmps3
    go_wp2_with fail
    refine (szHeadS_any a hs cap _ 1048576 w h (Nat.le_refl _) hsh hl (Nat.le_refl _)).mono ?_
    rintro e w1 ⟨⟨z, rfl, hz⟩, b1⟩
    rcases hz with hz | ⟨m, rfl, hm⟩
    · go_wp2
      go_ret
      exact ⟨rfl, b1⟩
    have hl2 : hs.length ≤ 1048576 := by omega
    have hsum : sumH hs ≤ 1048576 := by omega
    have hzz : ∀ x ∈ hs, x.2.size ≤ 281474976710656 := fun x hx => by have := (sumH_mem hs x hx).2; omega
    have HZ := hide hzz
    have HH := hide h
    clear hm hzz h hsum
    go_wp2_with fail
    refine (toHeadS_any a hs cap _ w1 (HH.out.below b1 (Nat.le_refl _)) b1.size hl2).mono ?_
    rintro e w2 ⟨rfl, s2, b2, z2⟩
    have c2 := b1.trans (b2.mono b1.size)
    go_wp2_with fail
    refine (specHeadOf_any _ hs _ _ name w2 s2 hl).mono ?_
    rintro e wx ⟨rfl, hw⟩
    obtain rfl := hw.symm
    obtain ⟨v, hv⟩ : ∃ v, hdOf hs name = v := ⟨_, rfl⟩
    have HV := hide hv
    rw [hv]
    clear hv
    obtain ⟨v1, v2⟩ := v
    go_wp2_with fail
    refine (toHeadS_any a hs cap _ w2 (HH.out.below c2 (Nat.le_refl _)) c2.size hl2).mono ?_
    rintro e w3 ⟨rfl, s3, b3, z3⟩
    have c3 := c2.trans (b3.mono c2.size)
    go_wp2_with fail
    refine (headOf_any _ hs _ _ name w3 s3 z3 hl HZ.out).mono ?_
    rintro e w4 ⟨rfl, b4⟩
    rw [HV.out]
    have c4 := c3.trans (b4.mono c3.size)
    have t3 := s3.below b4 z3
    have z4 := b4.size
    go_wp2_with fail
    refine (toHeadS_any a hs cap _ w4 (HH.out.below c4 (Nat.le_refl _)) c4.size hl2).mono ?_
    rintro e w5 ⟨rfl, s5, b5, z5⟩
    have c5 := c4.trans (b5.mono c4.size)
    have t5 := t3.below b5 (by omega)
    go_wp2_with fail
    refine (eqHeadS_any _ _ hs hs _ _ _ _ w5 t5 s5 (by omega) z5 hl hl).mono ?_
    rintro e w6 ⟨rfl, b6⟩
    rw [sameH_refl]
    go_wp2
    go_ret
    exact ⟨rfl, c5.trans (b6.mono c5.size)⟩
end Go.Proofs.Ytklhplhjnpdigab
