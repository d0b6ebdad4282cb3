/-
  The walk of the law FnExactAbove: for every list of texts it returns true, and turns nothing that was there.
-/
import Derived.Test.YtehoilheihpopabAbove
import Derived.Test.YtehoilheihpopabSpecAbove
import Derived.Test.YtehoilheihpopabLawStrs
import Derived.Test.YtehoilheihpopabToRow
import Derived.Test.YtehoilheihpopabEqStrs
import Derived.Test.YtehoilheihpopabMarksK
namespace Go.Proofs.Ytehoilheihpopab
open Go.RowKit M
set_option linter.unusedVariables false

set_option maxHeartbeats 4000000 in
set_option maxRecDepth 100000 in
theorem FnExactAbove_walk (a : Option Addr) (ss : List ByteArray) (cap : Nat) (hs : Short ss) (hl : ss.length ≤ maxLen) (w : World) (h : Strs w w.heap.size a ss) :
    Calls Try.prog 4 #[.slice a ss.length cap] w fun e w' => e = .returned (.bool true) ∧ Below w.heap.size w w' := by
  go_enter Try.func4, Try.ntmps4
  go_wp2_with fail
  refine (szStringS_any a ss cap _ 1048576 w h hs hl (Nat.le_refl _)).mono ?_
  rintro e w1 ⟨⟨z, rfl, hz⟩, hw⟩
  obtain rfl := hw.symm
  rcases hz with hz | ⟨m, rfl, hm⟩
  · go_wp2
    go_ret
    exact ⟨rfl, Below.refl _ _⟩
  have hl2 : ss.length ≤ 1048576 := by omega
  have hsz : ∀ s ∈ ss, s.size ≤ 281474976710656 := fun s hs' => by have := sumS_mem ss s hs'; omega
  have hcm : ss.length ≤ maxLen := hl
  have hal : (aboveL ss).length ≤ 1048576 := by rw [aboveL_len]; omega
  have halm : (aboveL ss).length ≤ maxLen := by unfold maxLen; omega
  clear hm
  go_wp2_with fail
  refine (toStringS_row a ss cap _ w h (Nat.le_refl _) hl2).mono ?_
  rintro e w1 ⟨rfl, r1, b1⟩
  go_wp2_with fail
  refine (specAbove_any _ ss _ w1.heap.size w1 (r1.strs' r1.1) (Nat.le_refl _) hl2 (Nat.le_refl _) hcm).mono ?_
  rintro e w2 ⟨⟨a2, c2, rfl, _, _, s2⟩, b2⟩
  have k2 := b1.trans (b2.mono b1.size)
  go_wp2_with fail
  refine (toStringS_row a ss cap _ w2 (h.below k2 (Nat.le_refl _)) k2.size hl2).mono ?_
  rintro e w3 ⟨rfl, r3, b3⟩
  have k3 := k2.trans (b3.mono k2.size)
  have s3 := s2.below b3 (Nat.le_refl _)
  go_wp2_with fail
  refine (above_any w2.heap.size 0 ss _ w3.heap.size w3 (r3.strs' r3.1) (Nat.le_refl _) hl2 hsz (Nat.le_refl _) hcm).mono ?_
  rintro e w4 ⟨rfl, r4, b4⟩
  have k4 := k3.trans (b4.mono k3.size)
  have s4 := s3.below b4 b3.size
  have x4 := r3.below b4
  have z3 := r3.1
  have z4 := r4.1
  have HA := hide (fun (g : Nat) (w : World) (hh : Strs w w.heap.size (some ⟨g, 0, none⟩) ss) => above_any g 0 ss ss.length w.heap.size w hh (Nat.le_refl _) hl2 hsz (Nat.le_refl _) hcm)
  generalize aboveL ss = tt at *
  go_wp2_with fail
  refine (eqStringS_any _ _ tt tt _ _ _ _ w4 (r4.strs' r4.1) s4 halm halm).mono ?_
  rintro e w5 ⟨rfl, b5⟩
  rw [sameL_refl]
  have k5 := k4.trans (b5 _)
  have s5 := s4.below (b5 _) (Nat.le_refl _)
  have x5 := x4.below (b5 _)
  have g5 := r4.below (b5 _)
  go_wp2_with fail
  refine (toStringS_row a ss cap _ w5 (h.below k5 (Nat.le_refl _)) k5.size hl2).mono ?_
  rintro e w6 ⟨rfl, r6, b6⟩
  have k6 := k5.trans (b6.mono k5.size)
  have s6 := s5.below b6 (by have := b4.size; have := (b5 0).size; have := b3.size; omega)
  have x6 := x5.below b6
  have g6 := g5.below b6
  go_wp2_with fail
  refine (eqStringS_any _ _ ss ss _ _ _ _ w6 (x6.strs' x6.1) (r6.strs' r6.1) hl hl).mono ?_
  rintro e w7 ⟨rfl, b7⟩
  rw [sameL_refl]
  have k7 := k6.trans (b7 _)
  have s7 := s6.below (b7 _) (Nat.le_refl _)
  have x7 := x6.below (b7 _)
  have g7 := g6.below (b7 _)
  have z5 := (b5 0).size
  have z6 := b6.size
  have z7 := (b7 0).size
  have y2 := b2.size
  have y1 := k2.size
  go_wp2_with fail
  refine (markStringS_from w2.heap.size ss.length ss.length 1 ss rfl hl2 (Nat.le_refl _) (by omega) w7 x7).mono ?_
  rintro e w8 ⟨rfl, x8, t8⟩
  have k8 := k7.trans (t8.below (C := w.heap.size) (fun x hx => by subst hx; omega) (by omega))
  have s8 : Strs w8 w2.heap.size a2 tt := s7.below (t8.below (C := w2.heap.size) (fun x hx => by omega) (by omega)) (Nat.le_refl _)
  have g8 := g7.turn t8 (by omega)
  clear x8 x7 x6 x5 x4 s7 s6 s5 s4 s3 s2 g7 g6 g5
  have z8 := t8.size
  have HE := hide (eqStringS_any (some ⟨w3.heap.size, 0, none⟩) a2 tt tt tt.length c2 (w3.heap.size + 1) w2.heap.size w8 (g8.strs' (Nat.lt_succ_self _)) s8 halm halm)
  have hk0 : ¬ ((((1 : Nat) : Int) + (ss.length : Int)) < 0) := by omega
  go_wp2_with fail
  refine HE.out.mono ?_
  rintro e w9 ⟨rfl, b9⟩
  rw [sameL_refl]
  have k9 := k8.trans (b9 _)
  have s9 := s8.below (b9 _) (Nat.le_refl _)
  have g9 := g8.below (b9 _)
  have z9 := (b9 0).size
  clear hk0
  go_wp2_with fail
  refine (markStringS_from w3.heap.size tt.length tt.length 1 tt rfl hal (Nat.le_refl _) (by omega) w9 g9).mono ?_
  rintro e w10 ⟨rfl, m10, t10⟩
  have k10 := k9.trans (t10.below (C := w.heap.size) (fun x hx => by subst hx; omega) (by omega))
  have s10 : Strs w10 w2.heap.size a2 tt := s9.below (t10.below (C := w2.heap.size) (fun x hx => by omega) (by omega)) (Nat.le_refl _)
  have z10 := t10.size
  clear s9 s8 g9 g8
  go_wp2_with fail
  refine (heldStringS_from w3.heap.size tt.length tt.length 1 hal (Nat.le_refl _) (by omega) w10 m10).mono ?_
  rintro e w11 ⟨rfl, b11⟩
  have k11 := k10.trans (b11.mono k10.size)
  have s11 := s10.below b11 (by omega)
  have m11 := m10.below b11
  have z11 := b11.size
  go_wp2_with fail
  refine (toStringS_row a ss cap _ w11 (h.below k11 (Nat.le_refl _)) k11.size hl2).mono ?_
  rintro e w12 ⟨rfl, r12, b12⟩
  have k12 := k11.trans (b12.mono k11.size)
  have s12 := s11.below b12 (by omega)
  have m12 := m11.below b12
  have z12 := b12.size
  go_wp2_with fail
  refine (HA.out w11.heap.size w12 (r12.strs' r12.1)).mono ?_
  rintro e w13 ⟨rfl, r13, b13⟩
  have k13 := k12.trans (b13.mono k12.size)
  have s13 := s12.below b13 (by omega)
  have m13 := m12.below b13
  have z13 := b13.size
  go_wp2_with fail
  refine (eqStringS_any _ _ tt tt _ _ _ _ w13 (r13.strs' r13.1) s13 halm halm).mono ?_
  rintro e w14 ⟨rfl, b14⟩
  rw [sameL_refl]
  have k14 := k13.trans (b14 _)
  have m14 := m13.below (b14 _)
  go_wp2_with fail
  refine (heldStringS_from w3.heap.size tt.length tt.length 1 hal (Nat.le_refl _) (by omega) w14 m14).mono ?_
  rintro e w15 ⟨rfl, b15⟩
  have k15 := k14.trans (b15.mono k14.size)
  go_wp2
  go_ret
  exact ⟨rfl, k15⟩
end Go.Proofs.Ytehoilheihpopab
