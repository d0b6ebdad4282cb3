/-
  The walk of the law FnExactDeepOf: for all things and every path it returns true, and turns nothing that was there.
-/
import Derived.Test.YtepdfppbnepamacMathNum
import Derived.Test.YtepdfppbnepamacSizesK
import Derived.Test.YtepdfppbnepamacSpecDeepOf
import Derived.Test.YtepdfppbnepamacRowS
import Derived.Test.YtepdfppbnepamacMarkResS
import Derived.Test.YtepdfppbnepamacHeldRes
namespace Go.Proofs.Ytepdfppbnepamac
open Go.RowKit M
set_option linter.unusedVariables false

theorem deep_sum (rs : List Rs) (p : List ByteArray) : (deepL rs p).length + sumR (deepL rs p) ≤ rs.length + sumR rs := by
  induction rs with
  | nil => simp [deepL, sumR]
  | cons r l ih =>
    have h1 : sumR (r :: l) = szR r + sumR l := by simp [sumR]
    rw [h1, List.length_cons]
    cases e : deepB p r
    · have e2 : deepL (r :: l) p = deepL l p := by simp [deepL, e]
      rw [e2]
      omega
    · have e2 : deepL (r :: l) p = r :: deepL l p := by simp [deepL, e]
      have h3 : sumR (r :: deepL l p) = szR r + sumR (deepL l p) := by simp [sumR]
      rw [e2, List.length_cons, h3]
      omega

set_option maxRecDepth 100000 in
set_option maxHeartbeats 8000000 in
theorem FnExactDeepOf_walk (a : Option Addr) (rs : List Rs) (cap : Nat) (hs : ShortT rs) (hl : rs.length ≤ maxLen) (b : Option Addr) (tt : List ByteArray) (cap' : Nat) (hs' : Short tt) (hl' : tt.length ≤ maxLen) (w : World) (h : Rss w w.heap.size a rs) (h' : Strs w w.heap.size b tt) :
    Calls Try.prog 3 #[.slice a rs.length cap, .slice b tt.length cap'] w fun e w' => e = .returned (.bool true) ∧ Below w.heap.size w w' := by
  go_enter Try.func3, Try.ntmps3
  go_wp2_with fail
  refine (szResS_any a rs cap _ 1048576 w h (Nat.le_refl _) hs hl (Nat.le_refl _)).mono ?_
  rintro e w1 ⟨⟨z, rfl, hz⟩, b1⟩
  rcases hz with hz | ⟨m, rfl, hm⟩
  · go_wp2
    go_ret
    exact ⟨rfl, b1⟩
  have hm2 : m ≤ 1048576 := by omega
  have hR : rs.length + sumR rs ≤ 1048576 := by omega
  have hr2 : rs.length ≤ 1048576 := by omega
  have hS := short_of_sumK hR
  have hSm : ∀ r ∈ rs, r.pa.length ≤ maxLen ∧ r.ps.length ≤ maxLen := fun r hr => by
    have := hS r hr
    unfold maxLen
    omega
  have HRR := hide hR
  clear hm hR
  go_wp2_with fail
  refine (szStringS_any b tt cap' _ m w1 (h'.below b1 (Nat.le_refl _)) hs' hl' hm2).mono ?_
  rintro e w1' ⟨⟨z, rfl, hz⟩, hw⟩
  obtain rfl := hw.symm
  rcases hz with hz | ⟨m2, rfl, hm⟩
  · go_wp2
    go_ret
    exact ⟨rfl, b1⟩
  have hl2' : tt.length ≤ 1048576 := by omega
  clear hm
  have hds := deep_sum rs tt
  have hks : (deepL rs tt).length + sumR (deepL rs tt) ≤ 1048576 := by have := HRR.out; omega
  have hkm : (deepL rs tt).length ≤ maxLen := by unfold maxLen; omega
  have hkn : ∀ r ∈ deepL rs tt, r.pa.length ≤ maxLen ∧ r.ps.length ≤ maxLen := fun r hr => by
    have := short_of_sumK hks r hr
    unfold maxLen
    omega
  have HSP := hide (fun a cap B b cap' C W (x : Rss W B a rs) (y : Strs W C b tt) (hB : B ≤ W.heap.size) (hC : C ≤ W.heap.size) => specDeepOf_any a rs cap B b tt cap' C W x y hB hC hr2 hl2' (fun r hr => ⟨(hS r hr).1, (hS r hr).2.1⟩))
  have HIP := hide (fun a cap B b cap' C W (x : Rss W B a rs) (y : Strs W C b tt) (hB : B ≤ W.heap.size) (hC : C ≤ W.heap.size) => deepOf_any a rs cap B b tt cap' C W x y hB hC hr2 hl2' hS)
  generalize deepL rs tt = ls at *
  clear hds
  -- the specification's answer
  go_wp2_with fail
  refine (toResS_any a rs cap _ w1 (h.below b1 (Nat.le_refl _)) b1.size HRR.out).mono ?_
  rintro e w2 ⟨rfl, ⟨pb2, qb2, o2⟩, b2⟩
  have k2 := b1.trans (b2.mono b1.size)
  go_wp2_with fail
  refine (toStringS_row b tt cap' _ w2 (h'.below k2 (Nat.le_refl _)) k2.size hl2').mono ?_
  rintro e w3 ⟨rfl, s3, b3⟩
  have k3 := k2.trans (b3.mono k2.size)
  have r3 := (o2.below b3).rss hSm b3.size
  have HS1 := hide (HSP.out _ rs.length _ _ tt.length _ w3 r3 (s3.strs' s3.1) (Nat.le_refl _) (Nat.le_refl _))
  clear r3 o2 s3
  go_wp2_with fail
  refine HS1.out.mono ?_
  rintro e w4 ⟨⟨ga, ca, _u, rfl, oa⟩, b4⟩
  have k4 := k3.trans (b4.mono k3.size)
  have s4 := oa
  clear oa HS1
  -- the program's
  go_wp2_with fail
  refine (toResS_any a rs cap _ w4 (h.below k4 (Nat.le_refl _)) k4.size HRR.out).mono ?_
  rintro e w5 ⟨rfl, ⟨pb5, qb5, o5⟩, b5⟩
  have k5 := k4.trans (b5.mono k4.size)
  go_wp2_with fail
  refine (toStringS_row b tt cap' _ w5 (h'.below k5 (Nat.le_refl _)) k5.size hl2').mono ?_
  rintro e w6 ⟨rfl, t6, b6⟩
  have y6s : w5.heap.size < w6.heap.size := t6.1
  have k6 := k5.trans (b6.mono k5.size)
  have o6 := o5.below b6
  have r6 := o6.rss hSm b6.size
  have HS2 := hide (HIP.out _ rs.length _ _ tt.length _ w6 r6 (t6.strs' t6.1) (Nat.le_refl _) (Nat.le_refl _))
  have y5 := b5.size
  have y6 := b6.size
  have y4 := b4.size
  clear r6 o5
  go_wp2_with fail
  refine HS2.out.mono ?_
  rintro e w7 ⟨⟨g, c7, pb7, qb7, rfl, o7⟩, b7⟩
  have k7 := k6.trans (b7.mono k6.size)
  have x7 := o6.below b7
  have t7 := t6.below b7
  have y7 := b7.size
  have s7 := ((s4.below b5 (Nat.le_refl _)).below b6 (by omega)).below b7 (by omega)
  clear o6 t6 s4 HS2
  have HE1 := hide (eqResS_any _ _ ls ls c7 ca _ _ w7 (o7.rss hkn (Nat.le_refl _)) s7 (Nat.le_refl _) (by omega) hkm hkm)
  go_wp2_with fail
  refine HE1.out.mono ?_
  rintro e w8 ⟨rfl, b8⟩
  rw [sameT_refl]
  have k8 := k7.trans (b8.mono k7.size)
  have x8 := x7.below b8
  have t8 := t7.below b8
  have y8 := b8.size
  have s8 := s7.below b8 (by omega)
  have o8 := o7.below b8
  clear x7 t7 s7 o7 HE1
  go_wp2_with fail
  refine (toResS_any a rs cap _ w8 (h.below k8 (Nat.le_refl _)) k8.size HRR.out).mono ?_
  rintro e w9 ⟨rfl, ⟨pb9, qb9, n9⟩, b9⟩
  have k9 := k8.trans (b9.mono k8.size)
  have x9 := x8.below b9
  have t9 := t8.below b9
  have y9 := b9.size
  have s9 := s8.below b9 (by omega)
  have o9 := o8.below b9
  clear x8 t8 s8 o8
  have HE2 := hide (eqResS_any _ _ rs rs rs.length rs.length _ _ w9 (x9.rss hSm (Nat.le_refl _)) (n9.rss hSm (Nat.le_refl _)) (by omega) (Nat.le_refl _) hl hl)
  clear n9
  go_wp2_with fail
  refine HE2.out.mono ?_
  rintro e w10 ⟨rfl, b10⟩
  rw [sameT_refl]
  have k10 := k9.trans (b10.mono k9.size)
  have x10 := x9.below b10
  have t10 := t9.below b10
  have y10 := b10.size
  have s10 := s9.below b10 (by omega)
  have o10 := o9.below b10
  clear x9 t9 s9 o9 HE2
  go_wp2_with fail
  refine (toStringS_row b tt cap' _ w10 (h'.below k10 (Nat.le_refl _)) k10.size hl2').mono ?_
  rintro e w11 ⟨rfl, n11, b11⟩
  have k11 := k10.trans (b11.mono k10.size)
  have x11 := x10.below b11
  have t11 := t10.below b11
  have y11 := b11.size
  have s11 := s10.below b11 (by omega)
  have o11 := o10.below b11
  clear x10 t10 s10 o10
  go_wp2_with fail
  refine (eqStringS_any _ _ tt tt _ _ _ _ w11 (t11.strs' t11.1) (n11.strs' n11.1) hl' hl').mono ?_
  rintro e w12 ⟨rfl, b12'⟩
  rw [sameL_refl]
  have b12 : Below w11.heap.size w11 w12 := b12' _
  have k12 := k11.trans (b12.mono k11.size)
  have x12 := x11.below b12
  have t12 := t11.below b12
  have y12 := b12.size
  have s12 := s11.below b12 (by omega)
  have o12 := o11.below b12
  clear x11 t11 s11 o11 n11 b12'
  -- the arguments marked
  have HM1 := hide (markResS_from w4.heap.size w5.heap.size w4.heap.size rs.length 1 rs pb5 qb5 HRR.out (Nat.le_refl _) (by omega) w12 x12)
  have y0 := k4.size
  go_wp2_with fail
  refine HM1.out.mono ?_
  rintro e w13 ⟨rfl, _, u13⟩
  have k13 := k12.trans (u13.below (C := w.heap.size) (fun x hx => by omega) (by omega))
  have t13 := t12.turn u13 (by omega)
  have y13 := u13.size
  have s13 := s12.below (u13.below (C := w4.heap.size) (fun x hx => hx.1) (by omega)) (Nat.le_refl _)
  have o13 := o12.turn u13 (fun x h1 h2 hx => by omega)
  have hK := kAt_mono 1 rs rs.length (Nat.le_refl _)
  have hKc := cnt_sum rs
  have hKb : 1 ≤ kAt 1 rs rs.length ∧ kAt 1 rs rs.length ≤ 4000000 := by have := HRR.out; omega
  generalize kAt 1 rs rs.length = K1 at *
  have HM2 := hide (markStringS_from w5.heap.size tt.length tt.length K1 tt rfl hl2' hKb.1 (by omega) w13 t13)
  clear hK hKc x12 t12 s12 o12 u13 HM1 t13
  go_wp2_with fail
  refine HM2.out.mono ?_
  rintro e w14 ⟨rfl, _, u14⟩
  have k14 := k13.trans (u14.below (C := w.heap.size) (fun x hx => by omega) (by omega))
  have y14 := u14.size
  have s14 := s13.below (u14.below (C := w4.heap.size) (fun x hx => by omega) (by omega)) (Nat.le_refl _)
  have o14 := o13.turn u14 (fun x h1 h2 hx => by omega)
  have hk0 : ¬ ((K1 : Int) + (tt.length : Int) < 0) := by omega
  have HE3 := hide (eqResS_any _ _ ls ls c7 ca _ _ w14 (o14.rss hkn (Nat.le_refl _)) s14 (by omega) (by omega) hkm hkm)
  clear HM2 s13 o13 u14
  go_wp2_with fail
  refine HE3.out.mono ?_
  rintro e w15 ⟨rfl, b15⟩
  rw [sameT_refl]
  have k15 := k14.trans (b15.mono k14.size)
  have y15 := b15.size
  have s15 := s14.below b15 (by omega)
  have o15 := o14.below b15
  clear HE3 s14 o14 hk0
  -- the answer marked
  have HM3 := hide (markResS_from w6.heap.size w7.heap.size g c7 1 ls pb7 qb7 hks (Nat.le_refl _) (by omega) w15 o15)
  go_wp2_with fail
  refine HM3.out.mono ?_
  rintro e w16 ⟨rfl, m16, u16⟩
  have k16 := k15.trans (u16.below (C := w.heap.size) (fun x hx => by omega) (by omega))
  have y16 := u16.size
  have s16 := s15.below (u16.below (C := w4.heap.size) (fun x hx => by omega) (by omega)) (Nat.le_refl _)
  clear HM3 s15 o15 u16
  have HH1 := hide (heldResS_from w6.heap.size w7.heap.size g c7 1 ls pb7 qb7 hks (Nat.le_refl _) (by omega) w16 m16)
  go_wp2_with fail
  refine HH1.out.mono ?_
  rintro e w17 ⟨rfl, b17⟩
  have k17 := k16.trans (b17.mono k16.size)
  have y17 := b17.size
  have s17 := s16.below b17 (by omega)
  have m17 := m16.below b17
  clear HH1 s16 m16
  go_wp2_with fail
  refine (toResS_any a rs cap _ w17 (h.below k17 (Nat.le_refl _)) k17.size HRR.out).mono ?_
  rintro e w18 ⟨rfl, ⟨pb18, qb18, o18⟩, b18⟩
  have k18 := k17.trans (b18.mono k17.size)
  have y18 := b18.size
  have s18 := s17.below b18 (by omega)
  have m18 := m17.below b18
  clear s17 m17
  go_wp2_with fail
  refine (toStringS_row b tt cap' _ w18 (h'.below k18 (Nat.le_refl _)) k18.size hl2').mono ?_
  rintro e w19 ⟨rfl, t19, b19⟩
  have k19 := k18.trans (b19.mono k18.size)
  have y19 := b19.size
  have s19 := s18.below b19 (by omega)
  have m19 := m18.below b19
  have r19 := (o18.below b19).rss hSm b19.size
  have HS3 := hide (HIP.out _ rs.length _ _ tt.length _ w19 r19 (t19.strs' t19.1) (Nat.le_refl _) (Nat.le_refl _))
  clear s18 m18 o18 r19 t19
  go_wp2_with fail
  refine HS3.out.mono ?_
  rintro e w20 ⟨⟨g2, c20, pb20, qb20, rfl, o20⟩, b20⟩
  have k20 := k19.trans (b20.mono k19.size)
  have y20 := b20.size
  have s20 := s19.below b20 (by omega)
  have m20 := m19.below b20
  clear s19 m19 HS3
  have HE4 := hide (eqResS_any _ _ ls ls c20 ca _ _ w20 (o20.rss hkn (Nat.le_refl _)) s20 (Nat.le_refl _) (by omega) hkm hkm)
  go_wp2_with fail
  refine HE4.out.mono ?_
  rintro e w21 ⟨rfl, b21⟩
  rw [sameT_refl]
  have k21 := k20.trans (b21.mono k20.size)
  have m21 := m20.below b21
  clear HE4 s20 o20 m20
  have HH2 := hide (heldResS_from w6.heap.size w7.heap.size g c7 1 ls pb7 qb7 hks (Nat.le_refl _) (by omega) w21 m21)
  clear m21
  go_wp2_with fail
  refine HH2.out.mono ?_
  rintro e w22 ⟨rfl, b22⟩
  have k22 := k21.trans (b22.mono k21.size)
  clear HH2
  go_wp2
  go_ret
  exact ⟨rfl, k22⟩
end Go.Proofs.Ytepdfppbnepamac
