/-
  The walk of the law FnExactPutFile: for all things, every path and all else it returns true, and turns nothing that was there.
-/
import Derived.Test.YtepdfppbnepamabGreatSpecProp
import Derived.Test.YtepdfppbnepamabGreatEqRess
import Derived.Test.YtepdfppbnepamabGreatMathMake
import Derived.Test.YtepdfppbnepamabGreatMarkResS
import Derived.Test.YtepdfppbnepamabGreatHeldRes
namespace Go.Proofs.YtepdfppbnepamabGreat
open Go.RowKit M
set_option linter.unusedVariables false

set_option maxRecDepth 100000 in
set_option maxHeartbeats 16000000 in
theorem FnExactPutFile_walk (a : Option Addr) (rs : List Rs) (cap : Nat) (hs : ShortT rs) (hl : rs.length ≤ maxLen) (b0 : Option Addr) (p0 : List ByteArray) (cap0 : Nat) (hs0 : Short p0) (hl0 : p0.length ≤ maxLen) (bo : ByteArray) (hbs : bo.size ≤ maxLen) (v : Int) (hv : (Lit.int .i64 v).wf = true) (w : World) (h : Rss w w.heap.size a rs) (h0 : Strs w w.heap.size b0 p0) :
    Calls Tryz.prog 3 #[.slice a rs.length cap, .slice b0 p0.length cap0, .string bo, .int .i64 v] w fun e w' => e = .returned (.bool true) ∧ Below w.heap.size w w' := by
  by_cases hbo : 1048576 < bo.size
  · have e9 : decide ((1048576 : Int) < (bo.size : Int)) = true := by simp; omega
    go_enter Tryz.func3, Tryz.ntmps3
    go_wp2
    go_ret
    exact ⟨rfl, Below.refl _ _⟩
  have e9 : decide ((1048576 : Int) < (bo.size : Int)) = false := by simp; omega
  have hbo2 : bo.size ≤ 1048576 := by omega
  go_enter Tryz.func3, Tryz.ntmps3
  go_wp2_with fail
  refine (szResS_any a rs cap _ 1048576 w h (Nat.le_refl _) hs hl (Nat.le_refl _)).mono ?_
  rintro e w1 ⟨⟨z, rfl, hz⟩, b1⟩
  rcases hz with hz | ⟨m0, rfl, hm⟩
  · go_wp2
    go_ret
    exact ⟨rfl, b1⟩
  have hm0 : m0 ≤ 1048576 := by omega
  have hR : rs.length + sumR rs ≤ 1048576 := by omega
  have hr2 : rs.length ≤ 1048576 := by omega
  have hS := short_of_sumK hR
  have hSm : ∀ r ∈ rs, r.pa.length ≤ maxLen ∧ r.ps.length ≤ maxLen := fun r hr => by
    have := hS r hr
    unfold maxLen
    omega
  have HRR := hide hR
  clear hm hR
  go_wp2_with fail
  refine (szStringS_any b0 p0 cap0 _ m0 w1 (h0.below b1 (Nat.le_refl _)) hs0 hl0 hm0).mono ?_
  rintro e w1' ⟨⟨z, rfl, hz⟩, hw⟩
  obtain rfl := hw.symm
  rcases hz with hz | ⟨m1, rfl, hm⟩
  · go_wp2
    go_ret
    exact ⟨rfl, b1⟩
  have hm1 : m1 ≤ 1048576 := by omega
  have hq0 : p0.length ≤ 1048576 := by omega
  have hpz0 : ∀ x ∈ p0, x.size ≤ 281474976710656 := fun x hx => by have := sumS_mem p0 x hx; omega
  clear hm
  have hks : (putFR rs p0 bo v).length + sumR (putFR rs p0 bo v) ≤ 1048576 := put_small HRR.out
  have hkm : (putFR rs p0 bo v).length ≤ maxLen := by unfold maxLen; omega
  have hkn : ∀ r ∈ putFR rs p0 bo v, r.pa.length ≤ maxLen ∧ r.ps.length ≤ maxLen := fun r hr => by
    have := short_of_sumK hks r hr
    unfold maxLen
    omega
  have HSP := hide (fun a cap B b0' cap0' W (x : Rss W B a rs) (x0 : Strs W B b0' p0) (y0 : p0.length ≤ cap0') (z0 : cap0' ≤ maxLen) (n0 : b0' = none → cap0' = 0) (hB : B ≤ W.heap.size) => specPutFile_any a rs cap B b0' p0 cap0' bo v W x x0 hB hs hr2 (fun r hr => ⟨(hS r hr).1, (hS r hr).2.1⟩) hs0 hq0 y0 z0 n0 hbs)
  have HIP := hide (fun a cap B g0 cap0' W (x : Rss W B a rs) (x0 : Strs W B (some ⟨g0, 0, none⟩) p0) (y0 : p0.length ≤ cap0') (z0 : cap0' ≤ maxLen) (n0 : (some (⟨g0, 0, none⟩ : Addr)) = none → cap0' = 0) (hB : B ≤ W.heap.size) => putFile_any a rs cap B g0 0 p0 cap0' bo v W x x0 hB hs hr2 hS hs0 hq0 hpz0 y0 z0 hbo2)
  generalize putFR rs p0 bo v = ls at *
  generalize codeM (fileI rs p0 bo v) (okF (findI rs p0)) = cc at *
  have hcc : (cc == cc) = true := beq_self_eq_true _
  have k1 := b1
  go_wp2_with fail
  refine (toResS_any a rs cap _ w1 (h.below k1 (Nat.le_refl _)) k1.size HRR.out).mono ?_
  rintro e w2 ⟨rfl, ⟨pb2, qb2, X2⟩, b2⟩
  have k2 := k1.trans (b2.mono k1.size)
  have y2 := b2.size
  have ax2 := X2
  clear X2
  go_wp2_with fail
  refine (toStringS_row b0 p0 cap0 _ w2 (h0.below k2 (Nat.le_refl _)) k2.size hq0).mono ?_
  rintro e w3 ⟨rfl, X3, b3⟩
  have k3 := k2.trans (b3.mono k2.size)
  have y3 := b3.size
  have ax3 := ax2.below b3
  clear ax2
  have at0_3 := X3
  have q3 : w2.heap.size < w3.heap.size := X3.1
  clear X3
  have HQ := hide (HSP.out _ rs.length w3.heap.size _ p0.length w3 (ax3.rss hSm (by omega)) ((at0_3).strs' (by omega)) (Nat.le_refl _) hl0 (fun e => by cases e) (Nat.le_refl _))
  clear ax3 at0_3
  go_wp2_with fail
  refine HQ.out.mono ?_
  rintro e w4 ⟨⟨vs, ts, base, hbase, rfl, hG, hm⟩, b4⟩
  obtain ⟨ga, ca, hv, s4⟩ := hG.rss (Nat.le_refl _)
  rw [hm] at s4
  have hll : ts.length = ls.length := by rw [← hm]; simp
  rw [hll] at hv
  subst hv
  clear hG hm hll HQ hbase
  have k4 := k3.trans (b4.mono k3.size)
  have y4 := b4.size
  go_wp2_with fail
  refine (toResS_any a rs cap _ w4 (h.below k4 (Nat.le_refl _)) k4.size HRR.out).mono ?_
  rintro e w5 ⟨rfl, ⟨pb5, qb5, X5⟩, b5⟩
  have k5 := k4.trans (b5.mono k4.size)
  have y5 := b5.size
  have s5 := s4.below b5 (by omega)
  clear s4
  have x5 := X5
  clear X5
  go_wp2_with fail
  refine (toStringS_row b0 p0 cap0 _ w5 (h0.below k5 (Nat.le_refl _)) k5.size hq0).mono ?_
  rintro e w6 ⟨rfl, X6, b6⟩
  have k6 := k5.trans (b6.mono k5.size)
  have y6 := b6.size
  have s6 := s5.below b6 (by omega)
  clear s5
  have x6 := x5.below b6
  clear x5
  have t0_6 := X6
  have q6 : w5.heap.size < w6.heap.size := X6.1
  clear X6
  have HQ := hide (HIP.out _ rs.length w6.heap.size _ p0.length w6 (x6.rss hSm (by omega)) ((t0_6).strs' (by omega)) (Nat.le_refl _) hl0 (fun e => by cases e) (Nat.le_refl _))
  go_wp2_with fail
  refine HQ.out.mono ?_
  rintro e w7 ⟨⟨g, c7, pb7, qb7, rfl, X7⟩, b7⟩
  clear HQ
  have k7 := k6.trans (b7.mono k6.size)
  have y7 := b7.size
  have s7 := s6.below b7 (by omega)
  clear s6
  have x7 := x6.below b7
  clear x6
  have t0_7 := t0_6.below b7
  clear t0_6
  have o7 := X7
  clear X7
  have HE := hide (eqResS_any _ _ ls ls c7 ca _ _ w7 (o7.rss hkn (Nat.le_refl _)) (s7) (by omega) (by omega) hkm hkm)
  go_wp2_with fail
  refine HE.out.mono ?_
  rintro e w8 ⟨rfl, b8⟩
  rw [sameT_refl]
  clear HE
  have k8 := k7.trans (b8.mono k7.size)
  have y8 := b8.size
  have s8 := s7.below b8 (by omega)
  clear s7
  have x8 := x7.below b8
  clear x7
  have t0_8 := t0_7.below b8
  clear t0_7
  have o8 := o7.below b8
  clear o7
  go_wp2_with fail
  refine (toResS_any a rs cap _ w8 (h.below k8 (Nat.le_refl _)) k8.size HRR.out).mono ?_
  rintro e w9 ⟨rfl, ⟨pb9, qb9, N9⟩, b9⟩
  have k9 := k8.trans (b9.mono k8.size)
  have y9 := b9.size
  have s9 := s8.below b9 (by omega)
  clear s8
  have x9 := x8.below b9
  clear x8
  have t0_9 := t0_8.below b9
  clear t0_8
  have o9 := o8.below b9
  clear o8
  have HE := hide (eqResS_any _ _ rs rs rs.length rs.length _ _ w9 (x9.rss hSm (by omega)) (N9.rss hSm (Nat.le_refl _)) (by omega) (by omega) hl hl)
  go_wp2_with fail
  refine HE.out.mono ?_
  rintro e w10 ⟨rfl, b10⟩
  rw [sameT_refl]
  clear HE
  clear N9
  have k10 := k9.trans (b10.mono k9.size)
  have y10 := b10.size
  have s10 := s9.below b10 (by omega)
  clear s9
  have x10 := x9.below b10
  clear x9
  have t0_10 := t0_9.below b10
  clear t0_9
  have o10 := o9.below b10
  clear o9
  go_wp2_with fail
  refine (toStringS_row b0 p0 cap0 _ w10 (h0.below k10 (Nat.le_refl _)) k10.size hq0).mono ?_
  rintro e w11 ⟨rfl, N11, b11⟩
  have k11 := k10.trans (b11.mono k10.size)
  have y11 := b11.size
  have s11 := s10.below b11 (by omega)
  clear s10
  have x11 := x10.below b11
  clear x10
  have t0_11 := t0_10.below b11
  clear t0_10
  have o11 := o10.below b11
  clear o10
  go_wp2_with fail
  refine (eqStringS_any _ _ p0 p0 _ _ _ _ w11 (t0_11.strs' t0_11.1) (N11.strs' N11.1) hl0 hl0).mono ?_
  rintro e w12 ⟨rfl, bb⟩
  rw [sameL_refl]
  have b12 : Below w11.heap.size w11 w12 := bb _
  clear bb N11
  have k12 := k11.trans (b12.mono k11.size)
  have y12 := b12.size
  have s12 := s11.below b12 (by omega)
  clear s11
  have x12 := x11.below b12
  clear x11
  have t0_12 := t0_11.below b12
  clear t0_11
  have o12 := o11.below b12
  clear o11
  have HM := hide (markResS_from w4.heap.size w5.heap.size w4.heap.size rs.length 1 rs pb5 qb5 HRR.out (Nat.le_refl _) (by omega) w12 x12)
  have yy := k4.size
  go_wp2_with fail
  refine HM.out.mono ?_
  rintro e w13 ⟨rfl, _, u13⟩
  clear HM x12
  have k13 := k12.trans (u13.below (C := w.heap.size) (fun x hx => by omega) (by omega))
  have y13 := u13.size
  have s13 := s12.below (u13.below (C := w4.heap.size) (fun x hx => by omega) (by omega)) (Nat.le_refl _)
  clear s12
  have t0_13 := t0_12.turn u13 (by omega)
  clear t0_12
  have o13 := o12.turn u13 (fun x h1 h2 hx => by omega)
  clear o12
  have hK := kAt_mono 1 rs rs.length (Nat.le_refl _)
  have hKc := cnt_sum rs
  have hKb : 1 ≤ kAt 1 rs rs.length ∧ kAt 1 rs rs.length ≤ 4000000 := by have := HRR.out; omega
  generalize kAt 1 rs rs.length = K0 at *
  clear hK hKc u13
  have HM := hide (markStringS_from w5.heap.size p0.length p0.length K0 p0 rfl hq0 (by omega) (by omega) w13 t0_13)
  go_wp2_with fail
  refine HM.out.mono ?_
  rintro e w14 ⟨rfl, _, u14⟩
  clear HM t0_13
  have k14 := k13.trans (u14.below (C := w.heap.size) (fun x hx => by omega) (by omega))
  have y14 := u14.size
  have s14 := s13.below (u14.below (C := w4.heap.size) (fun x hx => by omega) (by omega)) (Nat.le_refl _)
  clear s13
  have o14 := o13.turn u14 (fun x h1 h2 hx => by omega)
  clear o13
  obtain ⟨K1, hK1⟩ : ∃ K1 : Nat, K1 = K0 + p0.length := ⟨_, rfl⟩
  have eK : ((K0 : Nat) : Int) + (p0.length : Int) = (K1 : Int) := by omega
  rw [eK]
  have hKb1 : 1 ≤ K1 ∧ K1 ≤ 6000000 := by omega
  clear eK hK1 u14
  have hk0 : ¬ ((K1 : Int) < 0) := by omega
  have HE := hide (eqResS_any _ _ ls ls c7 ca _ _ w14 (o14.rss hkn (by omega)) (s14) (by omega) (by omega) hkm hkm)
  go_wp2_with fail
  refine HE.out.mono ?_
  rintro e w15 ⟨rfl, b15⟩
  rw [sameT_refl]
  clear HE
  have k15 := k14.trans (b15.mono k14.size)
  have y15 := b15.size
  have s15 := s14.below b15 (by omega)
  clear s14
  have o15 := o14.below b15
  clear o14
  clear hk0
  have HM := hide (markResS_from w6.heap.size w7.heap.size g c7 1 ls pb7 qb7 hks (Nat.le_refl _) (by omega) w15 o15)
  go_wp2_with fail
  refine HM.out.mono ?_
  rintro e w16 ⟨rfl, X16, u16⟩
  clear HM o15
  have k16 := k15.trans (u16.below (C := w.heap.size) (fun x hx => by omega) (by omega))
  have y16 := u16.size
  have s16 := s15.below (u16.below (C := w4.heap.size) (fun x hx => by omega) (by omega)) (Nat.le_refl _)
  clear s15
  have m16x := X16
  clear X16 u16
  have mm16 := m16x
  clear m16x
  have HH := hide (heldResS_from w6.heap.size w7.heap.size g c7 1 ls pb7 qb7 hks (Nat.le_refl _) (by omega) w16 mm16)
  go_wp2_with fail
  refine HH.out.mono ?_
  rintro e w17 ⟨rfl, b17⟩
  clear HH
  have k17 := k16.trans (b17.mono k16.size)
  have y17 := b17.size
  have s17 := s16.below b17 (by omega)
  clear s16
  have mm17 := mm16.below b17
  clear mm16
  go_wp2_with fail
  refine (toResS_any a rs cap _ w17 (h.below k17 (Nat.le_refl _)) k17.size HRR.out).mono ?_
  rintro e w18 ⟨rfl, ⟨pb18, qb18, X18⟩, b18⟩
  have k18 := k17.trans (b18.mono k17.size)
  have y18 := b18.size
  have s18 := s17.below b18 (by omega)
  clear s17
  have mm18 := mm17.below b18
  clear mm17
  have ex18 := X18
  clear X18
  go_wp2_with fail
  refine (toStringS_row b0 p0 cap0 _ w18 (h0.below k18 (Nat.le_refl _)) k18.size hq0).mono ?_
  rintro e w19 ⟨rfl, X19, b19⟩
  have k19 := k18.trans (b19.mono k18.size)
  have y19 := b19.size
  have s19 := s18.below b19 (by omega)
  clear s18
  have mm19 := mm18.below b19
  clear mm18
  have ex19 := ex18.below b19
  clear ex18
  have et0_19 := X19
  have q19 : w18.heap.size < w19.heap.size := X19.1
  clear X19
  have HQ := hide (HIP.out _ rs.length w19.heap.size _ p0.length w19 (ex19.rss hSm (by omega)) ((et0_19).strs' (by omega)) (Nat.le_refl _) hl0 (fun e => by cases e) (Nat.le_refl _))
  clear ex19
  clear et0_19
  go_wp2_with fail
  refine HQ.out.mono ?_
  rintro e w20 ⟨⟨g2, c8, pb8, qb8, rfl, X8⟩, b20⟩
  clear HQ
  have k20 := k19.trans (b20.mono k19.size)
  have y20 := b20.size
  have s20 := s19.below b20 (by omega)
  clear s19
  have mm20 := mm19.below b20
  clear mm19
  have HE := hide (eqResS_any _ _ ls ls c8 ca _ _ w20 (X8.rss hkn (Nat.le_refl _)) (s20) (by omega) (by omega) hkm hkm)
  go_wp2_with fail
  refine HE.out.mono ?_
  rintro e w21 ⟨rfl, b21⟩
  rw [sameT_refl]
  clear HE
  clear X8
  have k21 := k20.trans (b21.mono k20.size)
  have y21 := b21.size
  have s21 := s20.below b21 (by omega)
  clear s20
  have mm21 := mm20.below b21
  clear mm20
  have HH := hide (heldResS_from w6.heap.size w7.heap.size g c7 1 ls pb7 qb7 hks (Nat.le_refl _) (by omega) w21 mm21)
  go_wp2_with fail
  refine HH.out.mono ?_
  rintro e w22 ⟨rfl, b22⟩
  clear HH
  have k22 := k21.trans (b22.mono k21.size)
  go_wp2
  go_ret
  exact ⟨rfl, k22⟩
end Go.Proofs.YtepdfppbnepamabGreat
