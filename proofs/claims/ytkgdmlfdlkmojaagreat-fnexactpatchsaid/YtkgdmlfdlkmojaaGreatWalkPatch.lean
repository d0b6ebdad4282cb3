/-
  The walk of the law FnExactPatch: for every input it returns true, and turns nothing that was there.
-/
import Derived.Test.YtkgdmlfdlkmojaaGreatPatchI
import Derived.Test.YtkgdmlfdlkmojaaGreatMarkText
import Derived.Test.YtkgdmlfdlkmojaaGreatMathKids2
import Derived.Test.YtkgdmlfdlkmojaaGreatSizesK
import Derived.Test.YtkgdmlfdlkmojaaGreatLawSets
import Derived.Test.YtkgdmlfdlkmojaaGreatEqSets
import Derived.Test.YtkgdmlfdlkmojaaGreatMarkSets
import Derived.Test.YtkgdmlfdlkmojaaGreatTurnRows
namespace Go.Proofs.YtkgdmlfdlkmojaaGreat
open Go.RowKit M
set_option linter.unusedVariables false

set_option maxRecDepth 100000 in
set_option maxHeartbeats 16000000 in
theorem FnExactPatch_walk (a0 : Option Addr) (l0 : List Rs) (cap0 : Nat) (hs0 : ShortT l0) (hl0 : l0.length ≤ maxLen) (a1 : Option Addr) (l1 : List ByteArray) (cap1 : Nat) (hs1 : Short l1) (hl1 : l1.length ≤ maxLen) (a2 : Option Addr) (l2 : List St) (cap2 : Nat) (hs2 : ShortSs l2) (hl2 : l2.length ≤ maxLen) (w : World) (hh0 : Rss w w.heap.size a0 l0) (hh1 : Strs w w.heap.size a1 l1) (hh2 : Sts w w.heap.size a2 l2) :
    Calls Tryz.prog 3 #[.slice a0 l0.length cap0, .slice a1 l1.length cap1, .slice a2 l2.length cap2] w fun e w' => e = .returned (.bool true) ∧ Below w.heap.size w w' := by
  go_enter Tryz.func3, Tryz.ntmps3
  have k0 := Below.refl w.heap.size w
  have hm0 : (1048576 : Nat) ≤ 1048576 := Nat.le_refl _
  go_wp2_with fail
  refine (szResS_any a0 l0 cap0 _ 1048576 w (hh0.below k0 (Nat.le_refl _)) k0.size hs0 hl0 hm0).mono ?_
  rintro e w1 ⟨⟨z, rfl, hz⟩, b1⟩
  have k1 := k0.trans (b1.mono k0.size)
  have y1 := b1.size
  rcases hz with hz | ⟨m1, rfl, hm⟩
  · go_wp2
    go_ret
    exact ⟨rfl, k1⟩
  have ht1 : l0.length + m1 ≤ 1048576 := by omega
  have hm1 : m1 ≤ 1048576 := by omega
  have hq0 : l0.length ≤ 1048576 := by omega
  have hR : l0.length + sumR l0 ≤ 1048576 := by omega
  have hS := short_of_sumK hR
  have hSm : ∀ r ∈ l0, r.pa.length ≤ maxLen ∧ r.ps.length ≤ maxLen := fun r hr => by
    have := hS r hr
    unfold maxLen
    omega
  have HRR := hide hR
  clear hR
  have HT0 := hide hm
  clear hm
  go_wp2_with fail
  refine (szStringS_any a1 l1 cap1 _ m1 w1 (hh1.below k1 (Nat.le_refl _)) hs1 hl1 hm1).mono ?_
  rintro e w2 ⟨⟨z, rfl, hz⟩, hw⟩
  have b2 : Below w1.heap.size w1 w2 := by rw [hw]; exact Below.refl _ _
  clear hw
  have k2 := k1.trans (b2.mono k1.size)
  have y2 := b2.size
  rcases hz with hz | ⟨m2, rfl, hm⟩
  · go_wp2
    go_ret
    exact ⟨rfl, k2⟩
  have ht2 : l0.length + l1.length + m2 ≤ 1048576 := by omega
  have hm2 : m2 ≤ 1048576 := by omega
  have hq1 : l1.length ≤ 1048576 := by omega
  have hz1 : ∀ x ∈ l1, x.size ≤ 1048576 := fun x hx => by have := sumS_mem l1 x hx; omega
  have HT1 := hide hm
  clear hm
  go_wp2_with fail
  refine (szSetS_any a2 l2 cap2 _ m2 w2 (hh2.below k2 (Nat.le_refl _)) k2.size hs2 hl2 hm2).mono ?_
  rintro e w3 ⟨⟨z, rfl, hz⟩, b3⟩
  have k3 := k2.trans (b3.mono k2.size)
  have y3 := b3.size
  rcases hz with hz | ⟨m3, rfl, hm⟩
  · go_wp2
    go_ret
    exact ⟨rfl, k3⟩
  have ht3 : l0.length + l1.length + l2.length + m3 ≤ 1048576 := by omega
  have hm3 : m3 ≤ 1048576 := by omega
  have hq2 : l2.length ≤ 1048576 := by omega
  have hz2 : sumT l2 ≤ 1048576 := by omega
  have HT2 := hide hm
  clear hm
  have hks : (pat l0 l1 l2).1.length + sumR (pat l0 l1 l2).1 ≤ 1048576 := by have := pat_sum l0 l1 l2; have := HT0.out; have := HT1.out; have := HT2.out; omega
  have hkm : (pat l0 l1 l2).1.length ≤ maxLen := by unfold maxLen; omega
  have hkn : ∀ r ∈ (pat l0 l1 l2).1, r.pa.length ≤ maxLen ∧ r.ps.length ≤ maxLen := fun r hr => by
    have := short_of_sumK hks r hr
    unfold maxLen
    omega
  have hsp : ∀ r ∈ l0, SmallPs r.ps := fun r hr => (hS r hr).2.2.2.2
  have HSP := hide (fun (g0 g1 g2 : Nat) (W : World) (x0 : Rss W W.heap.size (some ⟨g0, 0, none⟩) l0) (x1 : Strs W W.heap.size (some ⟨g1, 0, none⟩) l1) (x2 : Sts W W.heap.size (some ⟨g2, 0, none⟩) l2) => specPatch_any (some ⟨g0, 0, none⟩) l0 l0.length W.heap.size (some ⟨g1, 0, none⟩) l1 l1.length W.heap.size (some ⟨g2, 0, none⟩) l2 l2.length W.heap.size W x0 (Nat.le_refl _) x1 (Nat.le_refl _) x2 (Nat.le_refl _) hs0 hq0 (fun r hr => ⟨(hS r hr).1, (hS r hr).2.1⟩) hl1 hq2 hs2)
  have HIP := hide (fun (g0 g1 g2 : Nat) (W : World) (x0 : Rss W W.heap.size (some ⟨g0, 0, none⟩) l0) (x1 : Strs W W.heap.size (some ⟨g1, 0, none⟩) l1) (x2 : Sts W W.heap.size (some ⟨g2, 0, none⟩) l2) (x3 : ∀ k (hk : k < l0.length), ∃ q qo qc, W.cell? ⟨g0, k * 5 + 4, none⟩ = some (.slice (some ⟨q, qo, none⟩) l0[k].ps.length qc)) => patch_any g0 0 l0.length l0 (some ⟨g1, 0, none⟩) l1 l1.length (some ⟨g2, 0, none⟩) l2 l2.length W x0 (fun _ k hk _ => by rw [Nat.zero_add]; exact x3 k hk) x1 x2 hs0 hq0 hS hl1 (fun r hr => (hS r hr).2.1) hq2 (small_of_sumT hz2) hsp)
  generalize (pat l0 l1 l2).1 = ls at *
  generalize (pat l0 l1 l2).2 = cc at *
  have hcc : (cc == cc) = true := beq_self_eq_true _
  go_wp2_with fail
  refine (toResS_any a0 l0 cap0 _ w3 (hh0.below k3 (Nat.le_refl _)) k3.size HRR.out).mono ?_
  rintro e w4 ⟨rfl, ⟨pb4, qb4, X4⟩, b4⟩
  have k4 := k3.trans (b4.mono k3.size)
  have y4 := b4.size
  have sa0_4 := X4
  clear X4
  go_wp2_with fail
  refine (toStringS_row a1 l1 cap1 _ w4 (hh1.below k4 (Nat.le_refl _)) k4.size hq1).mono ?_
  rintro e w5 ⟨rfl, X5, b5⟩
  have k5 := k4.trans (b5.mono k4.size)
  have y5 := b5.size
  have sa0_5 := sa0_4.below b5
  clear sa0_4
  have sa1_5 := X5
  have q5 : w4.heap.size < w5.heap.size := X5.1
  clear X5
  go_wp2_with fail
  refine (toSetS_any a2 l2 cap2 _ w5 (hh2.below k5 (Nat.le_refl _)) k5.size hq2).mono ?_
  rintro e w6 ⟨rfl, X6, b6⟩
  have k6 := k5.trans (b6.mono k5.size)
  have y6 := b6.size
  have sa0_6 := sa0_5.below b6
  clear sa0_5
  have sa1_6 := sa1_5.below b6
  clear sa1_5
  have sa2_6 := X6
  have q6 : w5.heap.size < w6.heap.size := X6.1
  clear X6
  have HQ := hide (HSP.out w3.heap.size w4.heap.size w5.heap.size w6 (sa0_6.rss hSm (by omega)) (sa1_6.strs' (by omega)) (sa2_6.sts (by omega)))
  clear sa0_6
  clear sa1_6
  clear sa2_6
  go_wp2_with fail
  refine HQ.out.mono ?_
  clear HQ
  rintro e w7 ⟨⟨ga, ca, rfl, s_7⟩, b7⟩
  have k7 := k6.trans (b7.mono k6.size)
  have y7 := b7.size
  go_wp2_with fail
  refine (toResS_any a0 l0 cap0 _ w7 (hh0.below k7 (Nat.le_refl _)) k7.size HRR.out).mono ?_
  rintro e w8 ⟨rfl, ⟨pb8, qb8, X8⟩, b8⟩
  have k8 := k7.trans (b8.mono k7.size)
  have y8 := b8.size
  have s_8 := s_7.below b8 (by omega)
  clear s_7
  have x0_8 := X8
  clear X8
  go_wp2_with fail
  refine (toStringS_row a1 l1 cap1 _ w8 (hh1.below k8 (Nat.le_refl _)) k8.size hq1).mono ?_
  rintro e w9 ⟨rfl, X9, b9⟩
  have k9 := k8.trans (b9.mono k8.size)
  have y9 := b9.size
  have s_9 := s_8.below b9 (by omega)
  clear s_8
  have x0_9 := x0_8.below b9
  clear x0_8
  have x1_9 := X9
  have q9 : w8.heap.size < w9.heap.size := X9.1
  clear X9
  go_wp2_with fail
  refine (toSetS_any a2 l2 cap2 _ w9 (hh2.below k9 (Nat.le_refl _)) k9.size hq2).mono ?_
  rintro e w10 ⟨rfl, X10, b10⟩
  have k10 := k9.trans (b10.mono k9.size)
  have y10 := b10.size
  have s_10 := s_9.below b10 (by omega)
  clear s_9
  have x0_10 := x0_9.below b10
  clear x0_9
  have x1_10 := x1_9.below b10
  clear x1_9
  have x2_10 := X10
  have q10 : w9.heap.size < w10.heap.size := X10.1
  clear X10
  have HQ := hide (HIP.out w7.heap.size w8.heap.size w9.heap.size w10 (x0_10.rss hSm (by omega)) (x1_10.strs' (by omega)) (x2_10.sts (by omega)) (fun k hk => ⟨_, _, _, (x0_10.cl k hk).2.2.2.2⟩))
  go_wp2_with fail
  refine HQ.out.mono ?_
  clear HQ
  rintro e w11 ⟨⟨g7, c7, pb7, qb7, rfl, X⟩, b11⟩
  have k11 := k10.trans (b11.mono k10.size)
  have y11 := b11.size
  have s_11 := s_10.below b11 (by omega)
  clear s_10
  have x0_11 := x0_10.below b11
  clear x0_10
  have x1_11 := x1_10.below b11
  clear x1_10
  have x2_11 := x2_10.below b11
  clear x2_10
  have o_11 := X
  clear X
  have HE := hide (eqResS_any _ _ ls ls c7 ca _ w7.heap.size w11 (o_11.rss hkn (by omega)) s_11 (Nat.le_refl _) (by omega) hkm hkm)
  go_wp2_with fail
  refine HE.out.mono ?_
  rintro e w12 ⟨rfl, b12⟩
  rw [sameT_refl]
  clear HE
  have k12 := k11.trans (b12.mono k11.size)
  have y12 := b12.size
  have s_12 := s_11.below b12 (by omega)
  clear s_11
  have x0_12 := x0_11.below b12
  clear x0_11
  have x1_12 := x1_11.below b12
  clear x1_11
  have x2_12 := x2_11.below b12
  clear x2_11
  have o_12 := o_11.below b12
  clear o_11
  go_wp2_with fail
  refine (toResS_any a0 l0 cap0 _ w12 (hh0.below k12 (Nat.le_refl _)) k12.size HRR.out).mono ?_
  rintro e w13 ⟨rfl, ⟨pb13, qb13, X13⟩, b13⟩
  have k13 := k12.trans (b13.mono k12.size)
  have y13 := b13.size
  have s_13 := s_12.below b13 (by omega)
  clear s_12
  have x0_13 := x0_12.below b13
  clear x0_12
  have x1_13 := x1_12.below b13
  clear x1_12
  have x2_13 := x2_12.below b13
  clear x2_12
  have o_13 := o_12.below b13
  clear o_12
  have N_13 := X13
  clear X13
  have HE := hide (eqResS_any _ _ l0 l0 l0.length l0.length _ _ w13 (x0_13.rss hSm (by omega)) (N_13.rss hSm (Nat.le_refl _)) (Nat.le_refl _) (Nat.le_refl _) hl0 hl0)
  go_wp2_with fail
  refine HE.out.mono ?_
  rintro e w14 ⟨rfl, b14⟩
  rw [sameT_refl]
  clear HE N_13
  have k14 := k13.trans (b14.mono k13.size)
  have y14 := b14.size
  have s_14 := s_13.below b14 (by omega)
  clear s_13
  have x0_14 := x0_13.below b14
  clear x0_13
  have x1_14 := x1_13.below b14
  clear x1_13
  have x2_14 := x2_13.below b14
  clear x2_13
  have o_14 := o_13.below b14
  clear o_13
  go_wp2_with fail
  refine (toStringS_row a1 l1 cap1 _ w14 (hh1.below k14 (Nat.le_refl _)) k14.size hq1).mono ?_
  rintro e w15 ⟨rfl, X15, b15⟩
  have k15 := k14.trans (b15.mono k14.size)
  have y15 := b15.size
  have s_15 := s_14.below b15 (by omega)
  clear s_14
  have x0_15 := x0_14.below b15
  clear x0_14
  have x1_15 := x1_14.below b15
  clear x1_14
  have x2_15 := x2_14.below b15
  clear x2_14
  have o_15 := o_14.below b15
  clear o_14
  have N_15 := X15
  have q15 : w14.heap.size < w15.heap.size := X15.1
  clear X15
  have HE := hide (eqStringS_any _ _ l1 l1 l1.length l1.length w15.heap.size w15.heap.size w15 (x1_15.strs' (by omega)) (N_15.strs' N_15.1) hl1 hl1)
  go_wp2_with fail
  refine HE.out.mono ?_
  rintro e w16 ⟨rfl, bb⟩
  rw [sameL_refl]
  clear HE N_15
  have b16 : Below w15.heap.size w15 w16 := bb _
  clear bb
  have k16 := k15.trans (b16.mono k15.size)
  have y16 := b16.size
  have s_16 := s_15.below b16 (by omega)
  clear s_15
  have x0_16 := x0_15.below b16
  clear x0_15
  have x1_16 := x1_15.below b16
  clear x1_15
  have x2_16 := x2_15.below b16
  clear x2_15
  have o_16 := o_15.below b16
  clear o_15
  go_wp2_with fail
  refine (toSetS_any a2 l2 cap2 _ w16 (hh2.below k16 (Nat.le_refl _)) k16.size hq2).mono ?_
  rintro e w17 ⟨rfl, X17, b17⟩
  have k17 := k16.trans (b17.mono k16.size)
  have y17 := b17.size
  have s_17 := s_16.below b17 (by omega)
  clear s_16
  have x0_17 := x0_16.below b17
  clear x0_16
  have x1_17 := x1_16.below b17
  clear x1_16
  have x2_17 := x2_16.below b17
  clear x2_16
  have o_17 := o_16.below b17
  clear o_16
  have N_17 := X17
  have q17 : w16.heap.size < w17.heap.size := X17.1
  clear X17
  have HE := hide (eqSetS_any _ _ l2 l2 l2.length l2.length w17.heap.size w17.heap.size w17 (x2_17.sts (by omega)) (N_17.sts N_17.1) (Nat.le_refl _) (Nat.le_refl _) hl2 hl2)
  go_wp2_with fail
  refine HE.out.mono ?_
  rintro e w18 ⟨rfl, b18⟩
  rw [sameS_refl]
  clear HE N_17
  have k18 := k17.trans (b18.mono k17.size)
  have y18 := b18.size
  have s_18 := s_17.below b18 (by omega)
  clear s_17
  have x0_18 := x0_17.below b18
  clear x0_17
  have x1_18 := x1_17.below b18
  clear x1_17
  have x2_18 := x2_17.below b18
  clear x2_17
  have o_18 := o_17.below b18
  clear o_17
  have yy := k7.size
  have hKb0 : (1 : Nat) ≤ 1 ∧ (1 : Nat) ≤ 1 := ⟨Nat.le_refl _, Nat.le_refl _⟩
  have HM := hide (markResS_from w7.heap.size w8.heap.size w7.heap.size l0.length 1 l0 pb8 qb8 HRR.out (by omega) (by omega) w18 x0_18)
  go_wp2_with fail
  refine HM.out.mono ?_
  rintro e w19 ⟨rfl, _, u19⟩
  clear HM x0_18
  have k19 := k18.trans (u19.below (C := w.heap.size) (fun x hx => by omega) (by omega))
  have y19 := u19.size
  have s_19 := s_18.below (u19.below (C := w7.heap.size) (fun x hx => by omega) (by omega)) (Nat.le_refl _)
  clear s_18
  have x1_19 := x1_18.turn u19 (by omega)
  clear x1_18
  have x2_19 := x2_18.turn u19 (by omega)
  clear x2_18
  have o_19 := o_18.turn u19 (fun x h1 h2 hx => by omega)
  clear o_18
  clear u19
  have hK := kAt_mono 1 l0 l0.length (Nat.le_refl _)
  have hKc := cnt_sum l0
  have hKb1 : 1 ≤ kAt 1 l0 l0.length ∧ kAt 1 l0 l0.length ≤ 4200001 := by have := HRR.out; omega
  generalize kAt 1 l0 l0.length = K1 at *
  clear hK hKc
  have HM := hide (markStringS_from w8.heap.size l1.length l1.length K1 l1 rfl hq1 (by omega) (by omega) w19 x1_19)
  go_wp2_with fail
  refine HM.out.mono ?_
  rintro e w20 ⟨rfl, _, u20⟩
  clear HM x1_19
  have k20 := k19.trans (u20.below (C := w.heap.size) (fun x hx => by omega) (by omega))
  have y20 := u20.size
  have s_20 := s_19.below (u20.below (C := w7.heap.size) (fun x hx => by omega) (by omega)) (Nat.le_refl _)
  clear s_19
  have x2_20 := x2_19.turn u20 (by omega)
  clear x2_19
  have o_20 := o_19.turn u20 (fun x h1 h2 hx => by omega)
  clear o_19
  clear u20
  obtain ⟨K2, hK2⟩ : ∃ K : Nat, K = K1 + l1.length := ⟨_, rfl⟩
  have eK : (((K1 : Nat) : Int) + (l1.length : Int)) = (K2 : Int) := by omega
  rw [eK]
  have hKb2 : 1 ≤ K2 ∧ K2 ≤ 5248577 := by omega
  clear eK hK2
  obtain ⟨F2, hF2⟩ := x2_20.cellsU
  have HM := hide (markSetS_from w9.heap.size l2.length l2.length K2 F2 hq2 (by omega) (by omega) w20 hF2)
  clear hF2
  go_wp2_with fail
  refine HM.out.mono ?_
  rintro e w21 ⟨rfl, _, u21⟩
  clear HM x2_20
  have k21 := k20.trans (u21.below (C := w.heap.size) (fun x hx => by omega) (by omega))
  have y21 := u21.size
  have s_21 := s_20.below (u21.below (C := w7.heap.size) (fun x hx => by omega) (by omega)) (Nat.le_refl _)
  clear s_20
  have o_21 := o_20.turn u21 (fun x h1 h2 hx => by omega)
  clear o_20
  clear u21
  obtain ⟨K3, hK3⟩ : ∃ K : Nat, K2 + 4 * l2.length = K := ⟨_, rfl⟩
  rw [hK3]
  have hKb3 : 1 ≤ K3 ∧ K3 ≤ 9442881 := by omega
  clear hK3
  have hk0 : ¬ ((K3 : Int) < 0) := by omega
  have HE := hide (eqResS_any _ _ ls ls c7 ca _ w7.heap.size w21 (o_21.rss hkn (by omega)) s_21 (Nat.le_refl _) (by omega) hkm hkm)
  go_wp2_with fail
  refine HE.out.mono ?_
  rintro e w22 ⟨rfl, b22⟩
  rw [sameT_refl]
  clear HE
  have k22 := k21.trans (b22.mono k21.size)
  have y22 := b22.size
  have s_22 := s_21.below b22 (by omega)
  clear s_21
  have o_22 := o_21.below b22
  clear o_21
  clear hk0
  have HM := hide (markResS_from w10.heap.size w11.heap.size g7 c7 1 ls pb7 qb7 hks (Nat.le_refl _) (by omega) w22 o_22)
  go_wp2_with fail
  refine HM.out.mono ?_
  rintro e w23 ⟨rfl, X, u23⟩
  clear HM o_22
  have k23 := k22.trans (u23.below (C := w.heap.size) (fun x hx => by omega) (by omega))
  have y23 := u23.size
  have s_23 := s_22.below (u23.below (C := w7.heap.size) (fun x hx => by omega) (by omega)) (Nat.le_refl _)
  clear s_22
  have mm_23 := X
  clear X u23
  have HH := hide (heldResS_from w10.heap.size w11.heap.size g7 c7 1 ls pb7 qb7 hks (Nat.le_refl _) (by omega) w23 mm_23)
  go_wp2_with fail
  refine HH.out.mono ?_
  rintro e w24 ⟨rfl, b24⟩
  clear HH
  have k24 := k23.trans (b24.mono k23.size)
  have y24 := b24.size
  have s_24 := s_23.below b24 (by omega)
  clear s_23
  have mm_24 := mm_23.below b24
  clear mm_23
  go_wp2_with fail
  refine (toResS_any a0 l0 cap0 _ w24 (hh0.below k24 (Nat.le_refl _)) k24.size HRR.out).mono ?_
  rintro e w25 ⟨rfl, ⟨pb25, qb25, X25⟩, b25⟩
  have k25 := k24.trans (b25.mono k24.size)
  have y25 := b25.size
  have s_25 := s_24.below b25 (by omega)
  clear s_24
  have mm_25 := mm_24.below b25
  clear mm_24
  have e0_25 := X25
  clear X25
  go_wp2_with fail
  refine (toStringS_row a1 l1 cap1 _ w25 (hh1.below k25 (Nat.le_refl _)) k25.size hq1).mono ?_
  rintro e w26 ⟨rfl, X26, b26⟩
  have k26 := k25.trans (b26.mono k25.size)
  have y26 := b26.size
  have s_26 := s_25.below b26 (by omega)
  clear s_25
  have mm_26 := mm_25.below b26
  clear mm_25
  have e0_26 := e0_25.below b26
  clear e0_25
  have e1_26 := X26
  have q26 : w25.heap.size < w26.heap.size := X26.1
  clear X26
  go_wp2_with fail
  refine (toSetS_any a2 l2 cap2 _ w26 (hh2.below k26 (Nat.le_refl _)) k26.size hq2).mono ?_
  rintro e w27 ⟨rfl, X27, b27⟩
  have k27 := k26.trans (b27.mono k26.size)
  have y27 := b27.size
  have s_27 := s_26.below b27 (by omega)
  clear s_26
  have mm_27 := mm_26.below b27
  clear mm_26
  have e0_27 := e0_26.below b27
  clear e0_26
  have e1_27 := e1_26.below b27
  clear e1_26
  have e2_27 := X27
  have q27 : w26.heap.size < w27.heap.size := X27.1
  clear X27
  have HQ := hide (HIP.out w24.heap.size w25.heap.size w26.heap.size w27 (e0_27.rss hSm (by omega)) (e1_27.strs' (by omega)) (e2_27.sts (by omega)) (fun k hk => ⟨_, _, _, (e0_27.cl k hk).2.2.2.2⟩))
  clear e0_27
  clear e1_27
  clear e2_27
  go_wp2_with fail
  refine HQ.out.mono ?_
  clear HQ
  rintro e w28 ⟨⟨g8, c8, pb8, qb8, rfl, X⟩, b28⟩
  have k28 := k27.trans (b28.mono k27.size)
  have y28 := b28.size
  have s_28 := s_27.below b28 (by omega)
  clear s_27
  have mm_28 := mm_27.below b28
  clear mm_27
  have HE := hide (eqResS_any _ _ ls ls c8 ca _ w7.heap.size w28 (X.rss hkn (by omega)) s_28 (Nat.le_refl _) (by omega) hkm hkm)
  go_wp2_with fail
  refine HE.out.mono ?_
  rintro e w29 ⟨rfl, b29⟩
  rw [sameT_refl]
  clear HE
  clear X
  have k29 := k28.trans (b29.mono k28.size)
  have y29 := b29.size
  have s_29 := s_28.below b29 (by omega)
  clear s_28
  have mm_29 := mm_28.below b29
  clear mm_28
  have HH := hide (heldResS_from w10.heap.size w11.heap.size g7 c7 1 ls pb7 qb7 hks (Nat.le_refl _) (by omega) w29 mm_29)
  go_wp2_with fail
  refine HH.out.mono ?_
  rintro e w30 ⟨rfl, b30⟩
  clear HH
  have k30 := k29.trans (b30.mono k29.size)
  go_wp2
  go_ret
  exact ⟨rfl, k30⟩
end Go.Proofs.YtkgdmlfdlkmojaaGreat
