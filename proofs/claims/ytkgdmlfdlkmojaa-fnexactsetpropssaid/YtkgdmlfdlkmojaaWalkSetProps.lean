/-
  The walk of the law FnExactSetProps: for every input it returns true, and turns nothing that was there.
-/
import Derived.Test.YtkgdmlfdlkmojaaSetPropsI
import Derived.Test.YtkgdmlfdlkmojaaSpecSetProps
import Derived.Test.YtkgdmlfdlkmojaaLawProps
import Derived.Test.YtkgdmlfdlkmojaaEqProps
import Derived.Test.YtkgdmlfdlkmojaaMarkProps
import Derived.Test.YtkgdmlfdlkmojaaLawSets
import Derived.Test.YtkgdmlfdlkmojaaEqSets
import Derived.Test.YtkgdmlfdlkmojaaMarkSets
import Derived.Test.YtkgdmlfdlkmojaaTurnRows
namespace Go.Proofs.Ytkgdmlfdlkmojaa
open Go.RowKit M
set_option linter.unusedVariables false

set_option maxRecDepth 100000 in
set_option maxHeartbeats 16000000 in
theorem FnExactSetProps_walk (a0 : Option Addr) (l0 : List Pp) (cap0 : Nat) (hs0 : ShortPs l0) (hl0 : l0.length ≤ maxLen) (a1 : Option Addr) (l1 : List St) (cap1 : Nat) (hs1 : ShortSs l1) (hl1 : l1.length ≤ maxLen) (w : World) (hh0 : Pps w w.heap.size a0 l0) (hh1 : Sts w w.heap.size a1 l1) :
    Calls Try.prog 4 #[.slice a0 l0.length cap0, .slice a1 l1.length cap1] w fun e w' => e = .returned (.bool true) ∧ Below w.heap.size w w' := by
  go_enter Try.func4, Try.ntmps4
  have k0 := Below.refl w.heap.size w
  have hm0 : (1048576 : Nat) ≤ 1048576 := Nat.le_refl _
  go_wp2_with fail
  refine (szPropS_any a0 l0 cap0 _ 1048576 w (hh0.below k0 (Nat.le_refl _)) k0.size hs0 hl0 hm0).mono ?_
  rintro e w1 ⟨⟨z, rfl, hz⟩, b1⟩
  have k1 := k0.trans (b1.mono k0.size)
  have y1 := b1.size
  rcases hz with hz | ⟨m1, rfl, hm⟩
  · go_wp2
    go_ret
    exact ⟨rfl, k1⟩
  have ht1 : l0.length + m1 ≤ 1048576 := by omega
  have hm1 : m1 ≤ 1048576 := by omega
  have hq0 : l0.length ≤ 1048576 := by omega
  have hz0 : sumP l0 ≤ 1048576 := by omega
  clear hm
  go_wp2_with fail
  refine (szSetS_any a1 l1 cap1 _ m1 w1 (hh1.below k1 (Nat.le_refl _)) k1.size hs1 hl1 hm1).mono ?_
  rintro e w2 ⟨⟨z, rfl, hz⟩, b2⟩
  have k2 := k1.trans (b2.mono k1.size)
  have y2 := b2.size
  rcases hz with hz | ⟨m2, rfl, hm⟩
  · go_wp2
    go_ret
    exact ⟨rfl, k2⟩
  have ht2 : l0.length + l1.length + m2 ≤ 1048576 := by omega
  have hm2 : m2 ≤ 1048576 := by omega
  have hq1 : l1.length ≤ 1048576 := by omega
  have hz1 : sumT l1 ≤ 1048576 := by omega
  clear hm
  have hkq : (setsL l0 l1).length ≤ 1048576 := by have := sets_len l0 l1; omega
  have hkm : (setsL l0 l1).length ≤ maxLen := by unfold maxLen; omega
  have HSP := hide (fun (g0 g1 : Nat) (W : World) (x0 : Pps W W.heap.size (some ⟨g0, 0, none⟩) l0) (x1 : Sts W W.heap.size (some ⟨g1, 0, none⟩) l1) => specSetProps_any (some ⟨g0, 0, none⟩) l0 l0.length W.heap.size (some ⟨g1, 0, none⟩) l1 l1.length W.heap.size W x0 (Nat.le_refl _) (fun e => by cases e) x1 (Nat.le_refl _) hq0 hq1 hs0 hs1)
  have HIP := hide (fun (g0 g1 : Nat) (W : World) (x0 : Pps W W.heap.size (some ⟨g0, 0, none⟩) l0) (x1 : Sts W W.heap.size (some ⟨g1, 0, none⟩) l1) => setProps_any g0 0 l0 l0.length W.heap.size (some ⟨g1, 0, none⟩) l1 l1.length W.heap.size W x0 (Nat.le_refl _) (Nat.le_refl _) hl0 x1 (Nat.le_refl _) hq0 hq1 (small_of_sumP hz0) (small_of_sumT hz1))
  generalize setsL l0 l1 = ls at *
  generalize setsB l0 l1 = bb at *
  have hbb : (bb == bb) = true := beq_self_eq_true _
  go_wp2_with fail
  refine (toPropS_any a0 l0 cap0 _ w2 (hh0.below k2 (Nat.le_refl _)) k2.size hq0).mono ?_
  rintro e w3 ⟨rfl, X3, b3⟩
  have k3 := k2.trans (b3.mono k2.size)
  have y3 := b3.size
  have sa0_3 := X3
  have q3 : w2.heap.size < w3.heap.size := X3.1
  clear X3
  go_wp2_with fail
  refine (toSetS_any a1 l1 cap1 _ w3 (hh1.below k3 (Nat.le_refl _)) k3.size hq1).mono ?_
  rintro e w4 ⟨rfl, X4, b4⟩
  have k4 := k3.trans (b4.mono k3.size)
  have y4 := b4.size
  have sa0_4 := sa0_3.below b4
  clear sa0_3
  have sa1_4 := X4
  have q4 : w3.heap.size < w4.heap.size := X4.1
  clear X4
  have HQ := hide (HSP.out w2.heap.size w3.heap.size w4 (sa0_4.pps (by omega)) (sa1_4.sts (by omega)))
  clear sa0_4
  clear sa1_4
  go_wp2_with fail
  refine HQ.out.mono ?_
  clear HQ
  rintro e w5 ⟨⟨ga, na, ca, rfl, hna, X⟩, b5⟩
  have s_5 := (X.row hna).1.pps (X.row hna).1.1
  subst hna
  clear X
  have k5 := k4.trans (b5.mono k4.size)
  have y5 := b5.size
  go_wp2_with fail
  refine (toPropS_any a0 l0 cap0 _ w5 (hh0.below k5 (Nat.le_refl _)) k5.size hq0).mono ?_
  rintro e w6 ⟨rfl, X6, b6⟩
  have k6 := k5.trans (b6.mono k5.size)
  have y6 := b6.size
  have s_6 := s_5.below b6 (by omega)
  clear s_5
  have x0_6 := X6
  have q6 : w5.heap.size < w6.heap.size := X6.1
  clear X6
  go_wp2_with fail
  refine (toSetS_any a1 l1 cap1 _ w6 (hh1.below k6 (Nat.le_refl _)) k6.size hq1).mono ?_
  rintro e w7 ⟨rfl, X7, b7⟩
  have k7 := k6.trans (b7.mono k6.size)
  have y7 := b7.size
  have s_7 := s_6.below b7 (by omega)
  clear s_6
  have x0_7 := x0_6.below b7
  clear x0_6
  have x1_7 := X7
  have q7 : w6.heap.size < w7.heap.size := X7.1
  clear X7
  have HQ := hide (HIP.out w5.heap.size w6.heap.size w7 (x0_7.pps (by omega)) (x1_7.sts (by omega)))
  go_wp2_with fail
  refine HQ.out.mono ?_
  clear HQ
  rintro e w8 ⟨⟨g7, hg7, rfl, X⟩, b8⟩
  have hg7b : g7 < w8.heap.size := X.1
  have k8 := k7.trans (b8.mono k7.size)
  have y8 := b8.size
  have s_8 := s_7.below b8 (by omega)
  clear s_7
  have x0_8 := x0_7.below b8
  clear x0_7
  have x1_8 := x1_7.below b8
  clear x1_7
  have o_8 := X
  clear X
  have HE := hide (eqPropS_any _ _ ls ls ls.length ca _ w5.heap.size w8 (o_8.pps (by omega)) s_8 (Nat.le_refl _) (by omega) hkm hkm)
  go_wp2_with fail
  refine HE.out.mono ?_
  rintro e w9 ⟨rfl, b9⟩
  rw [sameP_refl]
  clear HE
  have k9 := k8.trans (b9.mono k8.size)
  have y9 := b9.size
  have s_9 := s_8.below b9 (by omega)
  clear s_8
  have x0_9 := x0_8.below b9
  clear x0_8
  have x1_9 := x1_8.below b9
  clear x1_8
  have o_9 := o_8.below b9
  clear o_8
  go_wp2_with fail
  refine (toPropS_any a0 l0 cap0 _ w9 (hh0.below k9 (Nat.le_refl _)) k9.size hq0).mono ?_
  rintro e w10 ⟨rfl, X10, b10⟩
  have k10 := k9.trans (b10.mono k9.size)
  have y10 := b10.size
  have s_10 := s_9.below b10 (by omega)
  clear s_9
  have x0_10 := x0_9.below b10
  clear x0_9
  have x1_10 := x1_9.below b10
  clear x1_9
  have o_10 := o_9.below b10
  clear o_9
  have N_10 := X10
  have q10 : w9.heap.size < w10.heap.size := X10.1
  clear X10
  have HE := hide (eqPropS_any _ _ l0 l0 l0.length l0.length w10.heap.size w10.heap.size w10 (x0_10.pps (by omega)) (N_10.pps N_10.1) (Nat.le_refl _) (Nat.le_refl _) hl0 hl0)
  go_wp2_with fail
  refine HE.out.mono ?_
  rintro e w11 ⟨rfl, b11⟩
  rw [sameP_refl]
  clear HE N_10
  have k11 := k10.trans (b11.mono k10.size)
  have y11 := b11.size
  have s_11 := s_10.below b11 (by omega)
  clear s_10
  have x0_11 := x0_10.below b11
  clear x0_10
  have x1_11 := x1_10.below b11
  clear x1_10
  have o_11 := o_10.below b11
  clear o_10
  go_wp2_with fail
  refine (toSetS_any a1 l1 cap1 _ w11 (hh1.below k11 (Nat.le_refl _)) k11.size hq1).mono ?_
  rintro e w12 ⟨rfl, X12, b12⟩
  have k12 := k11.trans (b12.mono k11.size)
  have y12 := b12.size
  have s_12 := s_11.below b12 (by omega)
  clear s_11
  have x0_12 := x0_11.below b12
  clear x0_11
  have x1_12 := x1_11.below b12
  clear x1_11
  have o_12 := o_11.below b12
  clear o_11
  have N_12 := X12
  have q12 : w11.heap.size < w12.heap.size := X12.1
  clear X12
  have HE := hide (eqSetS_any _ _ l1 l1 l1.length l1.length w12.heap.size w12.heap.size w12 (x1_12.sts (by omega)) (N_12.sts N_12.1) (Nat.le_refl _) (Nat.le_refl _) hl1 hl1)
  go_wp2_with fail
  refine HE.out.mono ?_
  rintro e w13 ⟨rfl, b13⟩
  rw [sameS_refl]
  clear HE N_12
  have k13 := k12.trans (b13.mono k12.size)
  have y13 := b13.size
  have s_13 := s_12.below b13 (by omega)
  clear s_12
  have x0_13 := x0_12.below b13
  clear x0_12
  have x1_13 := x1_12.below b13
  clear x1_12
  have o_13 := o_12.below b13
  clear o_12
  have yy := k5.size
  have hKb0 : (1 : Nat) ≤ 1 ∧ (1 : Nat) ≤ 1 := ⟨Nat.le_refl _, Nat.le_refl _⟩
  obtain ⟨F0, hF0⟩ := x0_13.cellsP
  have HM := hide (markPropS_from w5.heap.size l0.length l0.length 1 F0 hq0 (by omega) (by omega) w13 hF0)
  clear hF0
  go_wp2_with fail
  refine HM.out.mono ?_
  rintro e w14 ⟨rfl, _, u14⟩
  clear HM x0_13
  have k14 := k13.trans (u14.below (C := w.heap.size) (fun x hx => by omega) (by omega))
  have y14 := u14.size
  have s_14 := s_13.below (u14.below (C := w5.heap.size) (fun x hx => by omega) (by omega)) (Nat.le_refl _)
  clear s_13
  have x1_14 := x1_13.turn u14 (by omega)
  clear x1_13
  have o_14 := o_13.turn u14 (by omega)
  clear o_13
  clear u14
  obtain ⟨K1, hK1⟩ : ∃ K : Nat, 1 + 3 * l0.length = K := ⟨_, rfl⟩
  rw [hK1]
  have hKb1 : 1 ≤ K1 ∧ K1 ≤ 3145729 := by omega
  clear hK1
  obtain ⟨F1, hF1⟩ := x1_14.cellsU
  have HM := hide (markSetS_from w6.heap.size l1.length l1.length K1 F1 hq1 (by omega) (by omega) w14 hF1)
  clear hF1
  go_wp2_with fail
  refine HM.out.mono ?_
  rintro e w15 ⟨rfl, _, u15⟩
  clear HM x1_14
  have k15 := k14.trans (u15.below (C := w.heap.size) (fun x hx => by omega) (by omega))
  have y15 := u15.size
  have s_15 := s_14.below (u15.below (C := w5.heap.size) (fun x hx => by omega) (by omega)) (Nat.le_refl _)
  clear s_14
  have o_15 := o_14.turn u15 (by omega)
  clear o_14
  clear u15
  obtain ⟨K2, hK2⟩ : ∃ K : Nat, K1 + 4 * l1.length = K := ⟨_, rfl⟩
  rw [hK2]
  have hKb2 : 1 ≤ K2 ∧ K2 ≤ 7340033 := by omega
  clear hK2
  have hk0 : ¬ ((K2 : Int) < 0) := by omega
  have HE := hide (eqPropS_any _ _ ls ls ls.length ca _ w5.heap.size w15 (o_15.pps (by omega)) s_15 (Nat.le_refl _) (by omega) hkm hkm)
  go_wp2_with fail
  refine HE.out.mono ?_
  rintro e w16 ⟨rfl, b16⟩
  rw [sameP_refl]
  clear HE
  have k16 := k15.trans (b16.mono k15.size)
  have y16 := b16.size
  have s_16 := s_15.below b16 (by omega)
  clear s_15
  have o_16 := o_15.below b16
  clear o_15
  clear hk0
  obtain ⟨FF, hFF⟩ := o_16.cellsP
  have HM := hide (markPropS_from g7 ls.length ls.length 1 FF hkq (Nat.le_refl _) (by omega) w16 hFF)
  clear hFF
  go_wp2_with fail
  refine HM.out.mono ?_
  rintro e w17 ⟨rfl, X, u17⟩
  clear HM o_16
  have k17 := k16.trans (u17.below (C := w.heap.size) (fun x hx => by omega) (by omega))
  have y17 := u17.size
  have s_17 := s_16.below (u17.below (C := w5.heap.size) (fun x hx => by omega) (by omega)) (Nat.le_refl _)
  clear s_16
  have mm_17 := X
  clear X u17
  have HH := hide (heldPropS_from g7 ls.length ls.length 1 hkq (Nat.le_refl _) (by omega) w17 mm_17)
  go_wp2_with fail
  refine HH.out.mono ?_
  rintro e w18 ⟨rfl, b18⟩
  clear HH
  have k18 := k17.trans (b18.mono k17.size)
  have y18 := b18.size
  have s_18 := s_17.below b18 (by omega)
  clear s_17
  have mm_18 := mm_17.below b18
  clear mm_17
  go_wp2_with fail
  refine (toPropS_any a0 l0 cap0 _ w18 (hh0.below k18 (Nat.le_refl _)) k18.size hq0).mono ?_
  rintro e w19 ⟨rfl, X19, b19⟩
  have k19 := k18.trans (b19.mono k18.size)
  have y19 := b19.size
  have s_19 := s_18.below b19 (by omega)
  clear s_18
  have mm_19 := mm_18.below b19
  clear mm_18
  have e0_19 := X19
  have q19 : w18.heap.size < w19.heap.size := X19.1
  clear X19
  go_wp2_with fail
  refine (toSetS_any a1 l1 cap1 _ w19 (hh1.below k19 (Nat.le_refl _)) k19.size hq1).mono ?_
  rintro e w20 ⟨rfl, X20, b20⟩
  have k20 := k19.trans (b20.mono k19.size)
  have y20 := b20.size
  have s_20 := s_19.below b20 (by omega)
  clear s_19
  have mm_20 := mm_19.below b20
  clear mm_19
  have e0_20 := e0_19.below b20
  clear e0_19
  have e1_20 := X20
  have q20 : w19.heap.size < w20.heap.size := X20.1
  clear X20
  have HQ := hide (HIP.out w18.heap.size w19.heap.size w20 (e0_20.pps (by omega)) (e1_20.sts (by omega)))
  clear e0_20
  clear e1_20
  go_wp2_with fail
  refine HQ.out.mono ?_
  clear HQ
  rintro e w21 ⟨⟨g8, hg8, rfl, X⟩, b21⟩
  have hg8b : g8 < w21.heap.size := X.1
  have k21 := k20.trans (b21.mono k20.size)
  have y21 := b21.size
  have s_21 := s_20.below b21 (by omega)
  clear s_20
  have mm_21 := mm_20.below b21
  clear mm_20
  have HE := hide (eqPropS_any _ _ ls ls ls.length ca _ w5.heap.size w21 (X.pps (by omega)) s_21 (Nat.le_refl _) (by omega) hkm hkm)
  go_wp2_with fail
  refine HE.out.mono ?_
  rintro e w22 ⟨rfl, b22⟩
  rw [sameP_refl]
  clear HE
  clear X
  have k22 := k21.trans (b22.mono k21.size)
  have y22 := b22.size
  have s_22 := s_21.below b22 (by omega)
  clear s_21
  have mm_22 := mm_21.below b22
  clear mm_21
  have HH := hide (heldPropS_from g7 ls.length ls.length 1 hkq (Nat.le_refl _) (by omega) w22 mm_22)
  go_wp2_with fail
  refine HH.out.mono ?_
  rintro e w23 ⟨rfl, b23⟩
  clear HH
  have k23 := k22.trans (b23.mono k22.size)
  go_wp2
  go_ret
  exact ⟨rfl, k23⟩
end Go.Proofs.Ytkgdmlfdlkmojaa
