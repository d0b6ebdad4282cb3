/-
  The walk of the law FnExactMoveTree: for all things, every path and all else it returns true, and turns nothing that was there.
-/
import Derived.Test.YtepdfppbnepamabGreatFarI
import Derived.Test.YtepdfppbnepamabGreatSpecFar
import Derived.Test.YtepdfppbnepamabGreatFarSmall
import Derived.Test.YtepdfppbnepamabGreatEqRess
import Derived.Test.YtepdfppbnepamabGreatMarkResS
import Derived.Test.YtepdfppbnepamabGreatHeldRes
import Derived.Test.YtepdfppbnepamabGreatMathMake
namespace Go.Proofs.YtepdfppbnepamabGreat
open Go.RowKit M
set_option linter.unusedVariables false

set_option maxRecDepth 100000 in
set_option maxHeartbeats 16000000 in
theorem FnExactMoveTree_walk (a : Option Addr) (rs : List Rs) (cap : Nat) (hs : ShortT rs) (hl : rs.length ≤ maxLen) (ba0 : Option Addr) (p0 : List ByteArray) (cap0 : Nat) (hs0 : Short p0) (hl0 : p0.length ≤ maxLen) (ba1 : Option Addr) (p1 : List ByteArray) (cap1 : Nat) (hs1 : Short p1) (hl1 : p1.length ≤ maxLen) (ov : Bool) (v : Int) (hv : (Lit.int .i64 v).wf = true) (w : World) (h : Rss w w.heap.size a rs) (hh0 : Strs w w.heap.size ba0 p0) (hh1 : Strs w w.heap.size ba1 p1) :
    Calls Tryz.prog 6 #[.slice a rs.length cap, .slice ba0 p0.length cap0, .slice ba1 p1.length cap1, .bool ov, .int .i64 v] w fun e w' => e = .returned (.bool true) ∧ Below w.heap.size w w' := by
  go_enter Tryz.func6, Tryz.ntmps6
  go_wp2_with fail
  refine (szResS_any a rs cap _ 1048576 w h (Nat.le_refl _) hs hl (Nat.le_refl _)).mono ?_
  rintro e w1 ⟨⟨z, rfl, hz⟩, b1⟩
  rcases hz with hz | ⟨m0, rfl, hm⟩
  · go_wp2
    go_ret
    exact ⟨rfl, b1⟩
  have hm0 : m0 ≤ 1048576 := by omega
  have hR : rs.length + sumR rs ≤ 1048576 := by omega
  have hr2 : rs.length ≤ 1048576 := by omega
  have hS := short_of_sumK hR
  have hSm : ∀ r ∈ rs, r.pa.length ≤ maxLen ∧ r.ps.length ≤ maxLen := fun r hr => by
    have := hS r hr
    unfold maxLen
    omega
  have HRR := hide hR
  clear hm hR
  go_wp2_with fail
  refine (szStringS_any ba0 p0 cap0 _ m0 w1 (hh0.below b1 (Nat.le_refl _)) hs0 hl0 hm0).mono ?_
  rintro e w1' ⟨⟨z, rfl, hz⟩, hw⟩
  obtain rfl := hw.symm
  rcases hz with hz | ⟨m1, rfl, hm⟩
  · go_wp2
    go_ret
    exact ⟨rfl, b1⟩
  have hm1 : m1 ≤ 1048576 := by omega
  have hq0 : p0.length ≤ 1048576 := by omega
  have hpz0 : ∀ x ∈ p0, x.size ≤ 281474976710656 := fun x hx => by have := sumS_mem p0 x hx; omega
  clear hm
  go_wp2_with fail
  refine (szStringS_any ba1 p1 cap1 _ m1 w1 (hh1.below b1 (Nat.le_refl _)) hs1 hl1 hm1).mono ?_
  rintro e w1' ⟨⟨z, rfl, hz⟩, hw⟩
  obtain rfl := hw.symm
  rcases hz with hz | ⟨m2, rfl, hm⟩
  · go_wp2
    go_ret
    exact ⟨rfl, b1⟩
  have hm2 : m2 ≤ 1048576 := by omega
  have hq1 : p1.length ≤ 1048576 := by omega
  have hpz1 : ∀ x ∈ p1, x.size ≤ 281474976710656 := fun x hx => by have := sumS_mem p1 x hx; omega
  clear hm
  have hks : (farR rs p0 p1 ov v true).length + sumR (farR rs p0 p1 ov v true) ≤ 1048576 := far_small HRR.out
  have hkm : (farR rs p0 p1 ov v true).length ≤ maxLen := by unfold maxLen; omega
  have hkn : ∀ r ∈ farR rs p0 p1 ov v true, r.pa.length ≤ maxLen ∧ r.ps.length ≤ maxLen := fun r hr => by
    have := short_of_sumK hks r hr
    unfold maxLen
    omega
  have HSP := hide (fun a cap B b0' cap0' gS cap1' W (x : Rss W B a rs) (x0 : Strs W B b0' p0) (y0 : p0.length ≤ cap0') (z0 : cap0' ≤ maxLen) (n0 : b0' = none → cap0' = 0) (x1 : Strs W B (some ⟨gS, 0, none⟩) p1) (y1 : p1.length ≤ cap1') (z1 : cap1' ≤ maxLen) (n1 : (some (⟨gS, 0, none⟩ : Addr)) = none → cap1' = 0) (hB : B ≤ W.heap.size) => specMoveTree_any a rs cap B b0' p0 cap0' gS 0 p1 cap1' ov v W x x0 x1 hB hs hr2 (fun r hr => ⟨(hS r hr).1, (hS r hr).2.1⟩) hs0 hq0 hs1 hq1 y0 z0 y1 z1)
  have HIP := hide (fun a cap B g0 cap0' g1 cap1' W (x : Rss W B a rs) (x0 : Strs W B (some ⟨g0, 0, none⟩) p0) (y0 : p0.length ≤ cap0') (z0 : cap0' ≤ maxLen) (n0 : (some (⟨g0, 0, none⟩ : Addr)) = none → cap0' = 0) (x1 : Strs W B (some ⟨g1, 0, none⟩) p1) (y1 : p1.length ≤ cap1') (z1 : cap1' ≤ maxLen) (n1 : (some (⟨g1, 0, none⟩ : Addr)) = none → cap1' = 0) (hB : B ≤ W.heap.size) => moveTreeI_any a rs cap B (some ⟨g0, 0, none⟩) p0 cap0' g1 0 p1 cap1' ov v W x x0 x1 hB hs hr2 hS hs0 hq0 hs1 hq1 hpz1 y0 z0 y1 z1)
  generalize farR rs p0 p1 ov v true = ls at *
  generalize farC rs p0 p1 ov v true = cc at *
  have hcc : (cc == cc) = true := beq_self_eq_true _
  have k1 := b1
  go_wp2_with fail
  refine (toResS_any a rs cap _ w1 (h.below k1 (Nat.le_refl _)) k1.size HRR.out).mono ?_
  rintro e w2 ⟨rfl, ⟨pb2, qb2, X2⟩, b2⟩
  have k2 := k1.trans (b2.mono k1.size)
  have y2 := b2.size
  have ax2 := X2
  clear X2
  go_wp2_with fail
  refine (toStringS_row ba0 p0 cap0 _ w2 (hh0.below k2 (Nat.le_refl _)) k2.size hq0).mono ?_
  rintro e w3 ⟨rfl, X3, b3⟩
  have k3 := k2.trans (b3.mono k2.size)
  have y3 := b3.size
  have ax3 := ax2.below b3
  clear ax2
  have at0_3 := X3
  have q3 : w2.heap.size < w3.heap.size := X3.1
  clear X3
  go_wp2_with fail
  refine (toStringS_row ba1 p1 cap1 _ w3 (hh1.below k3 (Nat.le_refl _)) k3.size hq1).mono ?_
  rintro e w4 ⟨rfl, X4, b4⟩
  have k4 := k3.trans (b4.mono k3.size)
  have y4 := b4.size
  have ax4 := ax3.below b4
  clear ax3
  have at0_4 := at0_3.below b4
  clear at0_3
  have at1_4 := X4
  have q4 : w3.heap.size < w4.heap.size := X4.1
  clear X4
  have HQ := hide (HSP.out _ rs.length w4.heap.size _ p0.length _ p1.length w4 (ax4.rss hSm (by omega)) ((at0_4).strs' (by omega)) (Nat.le_refl _) hl0 (fun e => by cases e) ((at1_4).strs' (by omega)) (Nat.le_refl _) hl1 (fun e => by cases e) (Nat.le_refl _))
  clear ax4 at0_4 at1_4
  go_wp2_with fail
  refine HQ.out.mono ?_
  rintro e w5 ⟨⟨vs, ts, base, hbase, rfl, hG, hm⟩, b5⟩
  obtain ⟨ga, ca, hv, s5⟩ := hG.rss (Nat.le_refl _)
  rw [hm] at s5
  have hll : ts.length = ls.length := by rw [← hm]; simp
  rw [hll] at hv
  subst hv
  clear hG hm hll HQ hbase
  have k5 := k4.trans (b5.mono k4.size)
  have y5 := b5.size
  go_wp2_with fail
  refine (toResS_any a rs cap _ w5 (h.below k5 (Nat.le_refl _)) k5.size HRR.out).mono ?_
  rintro e w6 ⟨rfl, ⟨pb6, qb6, X6⟩, b6⟩
  have k6 := k5.trans (b6.mono k5.size)
  have y6 := b6.size
  have s6 := s5.below b6 (by omega)
  clear s5
  have x6 := X6
  clear X6
  go_wp2_with fail
  refine (toStringS_row ba0 p0 cap0 _ w6 (hh0.below k6 (Nat.le_refl _)) k6.size hq0).mono ?_
  rintro e w7 ⟨rfl, X7, b7⟩
  have k7 := k6.trans (b7.mono k6.size)
  have y7 := b7.size
  have s7 := s6.below b7 (by omega)
  clear s6
  have x7 := x6.below b7
  clear x6
  have t0_7 := X7
  have q7 : w6.heap.size < w7.heap.size := X7.1
  clear X7
  go_wp2_with fail
  refine (toStringS_row ba1 p1 cap1 _ w7 (hh1.below k7 (Nat.le_refl _)) k7.size hq1).mono ?_
  rintro e w8 ⟨rfl, X8, b8⟩
  have k8 := k7.trans (b8.mono k7.size)
  have y8 := b8.size
  have s8 := s7.below b8 (by omega)
  clear s7
  have x8 := x7.below b8
  clear x7
  have t0_8 := t0_7.below b8
  clear t0_7
  have t1_8 := X8
  have q8 : w7.heap.size < w8.heap.size := X8.1
  clear X8
  have HQ := hide (HIP.out _ rs.length w8.heap.size _ p0.length _ p1.length w8 (x8.rss hSm (by omega)) ((t0_8).strs' (by omega)) (Nat.le_refl _) hl0 (fun e => by cases e) ((t1_8).strs' (by omega)) (Nat.le_refl _) hl1 (fun e => by cases e) (Nat.le_refl _))
  go_wp2_with fail
  refine HQ.out.mono ?_
  rintro e w9 ⟨⟨g, c7, pb7, qb7, rfl, X7⟩, b9⟩
  clear HQ
  have k9 := k8.trans (b9.mono k8.size)
  have y9 := b9.size
  have s9 := s8.below b9 (by omega)
  clear s8
  have x9 := x8.below b9
  clear x8
  have t0_9 := t0_8.below b9
  clear t0_8
  have t1_9 := t1_8.below b9
  clear t1_8
  have o9 := X7
  clear X7
  have HE := hide (eqResS_any _ _ ls ls c7 ca _ _ w9 (o9.rss hkn (Nat.le_refl _)) (s9) (by omega) (by omega) hkm hkm)
  go_wp2_with fail
  refine HE.out.mono ?_
  rintro e w10 ⟨rfl, b10⟩
  rw [sameT_refl]
  clear HE
  have k10 := k9.trans (b10.mono k9.size)
  have y10 := b10.size
  have s10 := s9.below b10 (by omega)
  clear s9
  have x10 := x9.below b10
  clear x9
  have t0_10 := t0_9.below b10
  clear t0_9
  have t1_10 := t1_9.below b10
  clear t1_9
  have o10 := o9.below b10
  clear o9
  go_wp2_with fail
  refine (toResS_any a rs cap _ w10 (h.below k10 (Nat.le_refl _)) k10.size HRR.out).mono ?_
  rintro e w11 ⟨rfl, ⟨pb11, qb11, N11⟩, b11⟩
  have k11 := k10.trans (b11.mono k10.size)
  have y11 := b11.size
  have s11 := s10.below b11 (by omega)
  clear s10
  have x11 := x10.below b11
  clear x10
  have t0_11 := t0_10.below b11
  clear t0_10
  have t1_11 := t1_10.below b11
  clear t1_10
  have o11 := o10.below b11
  clear o10
  have HE := hide (eqResS_any _ _ rs rs rs.length rs.length _ _ w11 (x11.rss hSm (by omega)) (N11.rss hSm (Nat.le_refl _)) (by omega) (by omega) hl hl)
  go_wp2_with fail
  refine HE.out.mono ?_
  rintro e w12 ⟨rfl, b12⟩
  rw [sameT_refl]
  clear HE
  clear N11
  have k12 := k11.trans (b12.mono k11.size)
  have y12 := b12.size
  have s12 := s11.below b12 (by omega)
  clear s11
  have x12 := x11.below b12
  clear x11
  have t0_12 := t0_11.below b12
  clear t0_11
  have t1_12 := t1_11.below b12
  clear t1_11
  have o12 := o11.below b12
  clear o11
  go_wp2_with fail
  refine (toStringS_row ba0 p0 cap0 _ w12 (hh0.below k12 (Nat.le_refl _)) k12.size hq0).mono ?_
  rintro e w13 ⟨rfl, N13, b13⟩
  have k13 := k12.trans (b13.mono k12.size)
  have y13 := b13.size
  have s13 := s12.below b13 (by omega)
  clear s12
  have x13 := x12.below b13
  clear x12
  have t0_13 := t0_12.below b13
  clear t0_12
  have t1_13 := t1_12.below b13
  clear t1_12
  have o13 := o12.below b13
  clear o12
  go_wp2_with fail
  refine (eqStringS_any _ _ p0 p0 _ _ _ _ w13 (t0_13.strs' t0_13.1) (N13.strs' N13.1) hl0 hl0).mono ?_
  rintro e w14 ⟨rfl, bb⟩
  rw [sameL_refl]
  have b14 : Below w13.heap.size w13 w14 := bb _
  clear bb N13
  have k14 := k13.trans (b14.mono k13.size)
  have y14 := b14.size
  have s14 := s13.below b14 (by omega)
  clear s13
  have x14 := x13.below b14
  clear x13
  have t0_14 := t0_13.below b14
  clear t0_13
  have t1_14 := t1_13.below b14
  clear t1_13
  have o14 := o13.below b14
  clear o13
  go_wp2_with fail
  refine (toStringS_row ba1 p1 cap1 _ w14 (hh1.below k14 (Nat.le_refl _)) k14.size hq1).mono ?_
  rintro e w15 ⟨rfl, N15, b15⟩
  have k15 := k14.trans (b15.mono k14.size)
  have y15 := b15.size
  have s15 := s14.below b15 (by omega)
  clear s14
  have x15 := x14.below b15
  clear x14
  have t0_15 := t0_14.below b15
  clear t0_14
  have t1_15 := t1_14.below b15
  clear t1_14
  have o15 := o14.below b15
  clear o14
  go_wp2_with fail
  refine (eqStringS_any _ _ p1 p1 _ _ _ _ w15 (t1_15.strs' t1_15.1) (N15.strs' N15.1) hl1 hl1).mono ?_
  rintro e w16 ⟨rfl, bb⟩
  rw [sameL_refl]
  have b16 : Below w15.heap.size w15 w16 := bb _
  clear bb N15
  have k16 := k15.trans (b16.mono k15.size)
  have y16 := b16.size
  have s16 := s15.below b16 (by omega)
  clear s15
  have x16 := x15.below b16
  clear x15
  have t0_16 := t0_15.below b16
  clear t0_15
  have t1_16 := t1_15.below b16
  clear t1_15
  have o16 := o15.below b16
  clear o15
  have HM := hide (markResS_from w5.heap.size w6.heap.size w5.heap.size rs.length 1 rs pb6 qb6 HRR.out (Nat.le_refl _) (by omega) w16 x16)
  have yy := k5.size
  go_wp2_with fail
  refine HM.out.mono ?_
  rintro e w17 ⟨rfl, _, u17⟩
  clear HM x16
  have k17 := k16.trans (u17.below (C := w.heap.size) (fun x hx => by omega) (by omega))
  have y17 := u17.size
  have s17 := s16.below (u17.below (C := w5.heap.size) (fun x hx => by omega) (by omega)) (Nat.le_refl _)
  clear s16
  have t0_17 := t0_16.turn u17 (by omega)
  clear t0_16
  have t1_17 := t1_16.turn u17 (by omega)
  clear t1_16
  have o17 := o16.turn u17 (fun x h1 h2 hx => by omega)
  clear o16
  have hK := kAt_mono 1 rs rs.length (Nat.le_refl _)
  have hKc := cnt_sum rs
  have hKb : 1 ≤ kAt 1 rs rs.length ∧ kAt 1 rs rs.length ≤ 4000000 := by have := HRR.out; omega
  generalize kAt 1 rs rs.length = K0 at *
  clear hK hKc u17
  have HM := hide (markStringS_from w6.heap.size p0.length p0.length K0 p0 rfl hq0 (by omega) (by omega) w17 t0_17)
  go_wp2_with fail
  refine HM.out.mono ?_
  rintro e w18 ⟨rfl, _, u18⟩
  clear HM t0_17
  have k18 := k17.trans (u18.below (C := w.heap.size) (fun x hx => by omega) (by omega))
  have y18 := u18.size
  have s18 := s17.below (u18.below (C := w5.heap.size) (fun x hx => by omega) (by omega)) (Nat.le_refl _)
  clear s17
  have t1_18 := t1_17.turn u18 (by omega)
  clear t1_17
  have o18 := o17.turn u18 (fun x h1 h2 hx => by omega)
  clear o17
  obtain ⟨K1, hK1⟩ : ∃ K1 : Nat, K1 = K0 + p0.length := ⟨_, rfl⟩
  have eK : ((K0 : Nat) : Int) + (p0.length : Int) = (K1 : Int) := by omega
  rw [eK]
  have hKb1 : 1 ≤ K1 ∧ K1 ≤ 6000000 := by omega
  clear eK hK1 u18
  have HM := hide (markStringS_from w7.heap.size p1.length p1.length K1 p1 rfl hq1 (by omega) (by omega) w18 t1_18)
  go_wp2_with fail
  refine HM.out.mono ?_
  rintro e w19 ⟨rfl, _, u19⟩
  clear HM t1_18
  have k19 := k18.trans (u19.below (C := w.heap.size) (fun x hx => by omega) (by omega))
  have y19 := u19.size
  have s19 := s18.below (u19.below (C := w5.heap.size) (fun x hx => by omega) (by omega)) (Nat.le_refl _)
  clear s18
  have o19 := o18.turn u19 (fun x h1 h2 hx => by omega)
  clear o18
  obtain ⟨K2, hK2⟩ : ∃ K2 : Nat, K2 = K1 + p1.length := ⟨_, rfl⟩
  have eK : ((K1 : Nat) : Int) + (p1.length : Int) = (K2 : Int) := by omega
  rw [eK]
  have hKb2 : 1 ≤ K2 ∧ K2 ≤ 8000000 := by omega
  clear eK hK2 u19
  have hk0 : ¬ ((K2 : Int) < 0) := by omega
  have HE := hide (eqResS_any _ _ ls ls c7 ca _ _ w19 (o19.rss hkn (by omega)) (s19) (by omega) (by omega) hkm hkm)
  go_wp2_with fail
  refine HE.out.mono ?_
  rintro e w20 ⟨rfl, b20⟩
  rw [sameT_refl]
  clear HE
  have k20 := k19.trans (b20.mono k19.size)
  have y20 := b20.size
  have s20 := s19.below b20 (by omega)
  clear s19
  have o20 := o19.below b20
  clear o19
  clear hk0
  have HM := hide (markResS_from w8.heap.size w9.heap.size g c7 1 ls pb7 qb7 hks (Nat.le_refl _) (by omega) w20 o20)
  go_wp2_with fail
  refine HM.out.mono ?_
  rintro e w21 ⟨rfl, X21, u21⟩
  clear HM o20
  have k21 := k20.trans (u21.below (C := w.heap.size) (fun x hx => by omega) (by omega))
  have y21 := u21.size
  have s21 := s20.below (u21.below (C := w5.heap.size) (fun x hx => by omega) (by omega)) (Nat.le_refl _)
  clear s20
  have m21x := X21
  clear X21 u21
  have mm21 := m21x
  clear m21x
  have HH := hide (heldResS_from w8.heap.size w9.heap.size g c7 1 ls pb7 qb7 hks (Nat.le_refl _) (by omega) w21 mm21)
  go_wp2_with fail
  refine HH.out.mono ?_
  rintro e w22 ⟨rfl, b22⟩
  clear HH
  have k22 := k21.trans (b22.mono k21.size)
  have y22 := b22.size
  have s22 := s21.below b22 (by omega)
  clear s21
  have mm22 := mm21.below b22
  clear mm21
  go_wp2_with fail
  refine (toResS_any a rs cap _ w22 (h.below k22 (Nat.le_refl _)) k22.size HRR.out).mono ?_
  rintro e w23 ⟨rfl, ⟨pb23, qb23, X23⟩, b23⟩
  have k23 := k22.trans (b23.mono k22.size)
  have y23 := b23.size
  have s23 := s22.below b23 (by omega)
  clear s22
  have mm23 := mm22.below b23
  clear mm22
  have ex23 := X23
  clear X23
  go_wp2_with fail
  refine (toStringS_row ba0 p0 cap0 _ w23 (hh0.below k23 (Nat.le_refl _)) k23.size hq0).mono ?_
  rintro e w24 ⟨rfl, X24, b24⟩
  have k24 := k23.trans (b24.mono k23.size)
  have y24 := b24.size
  have s24 := s23.below b24 (by omega)
  clear s23
  have mm24 := mm23.below b24
  clear mm23
  have ex24 := ex23.below b24
  clear ex23
  have et0_24 := X24
  have q24 : w23.heap.size < w24.heap.size := X24.1
  clear X24
  go_wp2_with fail
  refine (toStringS_row ba1 p1 cap1 _ w24 (hh1.below k24 (Nat.le_refl _)) k24.size hq1).mono ?_
  rintro e w25 ⟨rfl, X25, b25⟩
  have k25 := k24.trans (b25.mono k24.size)
  have y25 := b25.size
  have s25 := s24.below b25 (by omega)
  clear s24
  have mm25 := mm24.below b25
  clear mm24
  have ex25 := ex24.below b25
  clear ex24
  have et0_25 := et0_24.below b25
  clear et0_24
  have et1_25 := X25
  have q25 : w24.heap.size < w25.heap.size := X25.1
  clear X25
  have HQ := hide (HIP.out _ rs.length w25.heap.size _ p0.length _ p1.length w25 (ex25.rss hSm (by omega)) ((et0_25).strs' (by omega)) (Nat.le_refl _) hl0 (fun e => by cases e) ((et1_25).strs' (by omega)) (Nat.le_refl _) hl1 (fun e => by cases e) (Nat.le_refl _))
  clear ex25
  clear et0_25
  clear et1_25
  go_wp2_with fail
  refine HQ.out.mono ?_
  rintro e w26 ⟨⟨g2, c8, pb8, qb8, rfl, X8⟩, b26⟩
  clear HQ
  have k26 := k25.trans (b26.mono k25.size)
  have y26 := b26.size
  have s26 := s25.below b26 (by omega)
  clear s25
  have mm26 := mm25.below b26
  clear mm25
  have HE := hide (eqResS_any _ _ ls ls c8 ca _ _ w26 (X8.rss hkn (Nat.le_refl _)) (s26) (by omega) (by omega) hkm hkm)
  go_wp2_with fail
  refine HE.out.mono ?_
  rintro e w27 ⟨rfl, b27⟩
  rw [sameT_refl]
  clear HE
  clear X8
  have k27 := k26.trans (b27.mono k26.size)
  have y27 := b27.size
  have s27 := s26.below b27 (by omega)
  clear s26
  have mm27 := mm26.below b27
  clear mm26
  have HH := hide (heldResS_from w8.heap.size w9.heap.size g c7 1 ls pb7 qb7 hks (Nat.le_refl _) (by omega) w27 mm27)
  go_wp2_with fail
  refine HH.out.mono ?_
  rintro e w28 ⟨rfl, b28⟩
  clear HH
  have k28 := k27.trans (b28.mono k27.size)
  go_wp2
  go_ret
  exact ⟨rfl, k28⟩
end Go.Proofs.YtepdfppbnepamabGreat
