/-
  The walk of the law FnExactKidOf: for every node and texts it returns true, and turns nothing that was there.
-/
import Derived.Test.YtanebchmeaomgabKidOf
import Derived.Test.YtanebchmeaomgabSpecKidOf
import Derived.Test.YtanebchmeaomgabToNode
import Derived.Test.YtanebchmeaomgabEqNode
import Derived.Test.YtanebchmeaomgabMarkNode
import Derived.Test.YtanebchmeaomgabHeldNode
import Derived.Test.YtanebchmeaomgabStK
namespace Go.Proofs.Ytanebchmeaomgab
open Go.RowKit M
set_option linter.unusedVariables false

set_option maxRecDepth 100000 in
set_option maxHeartbeats 8000000 in
theorem FnExactKidOf_walk (a : Option Addr) (n : Nd) (cap : Nat) (hs : n.short) (na : ByteArray) (wfa : na.size ≤ maxLen) (nb : ByteArray) (wfb : nb.size ≤ maxLen) (w : World) (h : Nds w w.heap.size a n.ks) :
    Calls Try.prog 3 #[.agg #[.string n.ns, .string n.nm, .string n.tx, .slice a n.ks.length cap], .string na, .string nb] w fun e w' => e = .returned (.bool true) ∧ Below w.heap.size w w' := by
  have HS := hide hs
  have HB0 : Hid (Below w.heap.size w (w.alloc (Obj.cells #[.string n.ns, .string n.nm, .string n.tx, .slice a n.ks.length cap] 24))) := (Below.refl _ _).alloc (Nat.le_refl _) _
  have HX0 := hide (BoxN.made w a cap n 24)
  have HH := hide h
  clear h hs
  unfold maxLen at wfa wfb
  by_cases ha : 1048576 < na.size
  · go_enter Try.func3, Try.ntmps3
    go_wp2
    go_ret
    exact ⟨rfl, HB0.out⟩
  by_cases hb : 1048576 < nb.size
  · go_enter Try.func3, Try.ntmps3
    go_wp2
    go_ret
    exact ⟨rfl, HB0.out⟩
  go_enter Try.func3, Try.ntmps3
  go_wp2_with fail
  refine (szNode_any n a cap w.heap.size 1048576 _ (HH.out.stays HB0.out (Nat.le_refl _)) (by simp) HS.out (Nat.le_refl _)).mono ?_
  rintro e w1 ⟨⟨z, rfl, hz⟩, b1⟩
  have c1 := HB0.out.trans (b1.mono HB0.out.size)
  have BX1 := hide (HX0.out.next b1)
  have x1 := BX1.out
  obtain ⟨hq1, x10, x11, x12, x13⟩ := x1
  clear b1
  rcases hz with hz | ⟨mm, rfl, hm⟩
  · go_wp2
    go_ret
    exact ⟨rfl, c1⟩
  have HN : Hid (n.szN ≤ 1048576) := (by omega : n.szN ≤ 1048576)
  have HMS : Hid ((kidP n.ks na nb).1.szN ≤ 1048576) := (by have h1 := kidP_sz n.ks na nb; have h2 := szN_ks n; omega : (kidP n.ks na nb).1.szN ≤ 1048576)
  clear hm
  obtain ⟨R, hR⟩ : ∃ R, kidP n.ks na nb = R := ⟨_, rfl⟩
  rw [hR] at HMS
  have HR := hide hR
  clear hR
  obtain ⟨m, f⟩ := R
  have HMH := hide (short_sz m HMS.out)
  have HMC : Hid (m.cnt ≤ 2000000) := (by have h1 := m.cnt_le; have h2 := HMS.out; simp only at h2; omega : m.cnt ≤ 2000000)
  have HNC : Hid (n.cnt ≤ 2000000) := (by have h1 := n.cnt_le; have h2 := HN.out; omega : n.cnt ≤ 2000000)
  have HKS := hide (fun (a' : Option Addr) (c' B : Nat) (W : World) (h : Nds W B a' n.ks) (hB : B ≤ W.heap.size) => specKidOf_any n na nb a' c' B W h hB HN.out)
  have HKI := hide (fun (a' : Option Addr) (c' B : Nat) (W : World) (h : Nds W B a' n.ks) (hB : B ≤ W.heap.size) => kidOf_any n na nb a' c' B W h hB HN.out)
  simp only [HR.out] at HKS HKI
  clear HR
  go_wp2_with fail
  refine (toNode_any n a cap w.heap.size w1 (HH.out.stays c1 (Nat.le_refl _)) c1.size HN.out).mono ?_
  rintro e w2 ⟨⟨g2, rfl, s2⟩, b2⟩
  have c2 := c1.trans (b2.mono c1.size)
  have BX2 := hide (BX1.out.next b2)
  have S2 := hide (OwnK.nds s2 (B := w2.heap.size) (fun x hx => hx.2))
  clear x10 x11 x12 x13 b2 s2
  go_wp2_with fail
  refine (HKS.out _ _ _ w2 S2.out (Nat.le_refl _)).mono ?_
  rintro e w3 ⟨⟨am, cm, rfl, t0⟩, b3⟩
  have c3 := c2.trans (b3.mono c2.size)
  have BX3 := hide (BX2.out.next b3)
  have z23 := b3.size
  have z12 : w.heap.size < w2.heap.size := BX2.out.lt
  have T0 := hide t0
  have BA := hide (BoxN.made w3 am cm m 28)
  have BB := hide ((Below.refl w3.heap.size w3).alloc (Nat.le_refl _) (Obj.cells #[.string m.ns, .string m.nm, .string m.tx, .slice am m.ks.length cm] 28))
  have C3 := hide (c3.trans (BB.out.mono c3.size))
  have BXA := hide (BX3.out.next BB.out)
  have T0A := hide (T0.out.stays BB.out (fun x hx => hx.2))
  have hzA : (w3.alloc (Obj.cells #[.string m.ns, .string m.nm, .string m.tx, .slice am m.ks.length cm] 28)).heap.size = w3.heap.size + 1 := by simp
  have HZA := hide hzA
  obtain ⟨WA, hWA⟩ : ∃ WA, (w3.alloc (Obj.cells #[.string m.ns, .string m.nm, .string m.tx, .slice am m.ks.length cm] 28)) = WA := ⟨_, rfl⟩
  clear b3 t0 BX3 c3 BX2 hzA
  rw [hWA] at BA BB C3 BXA T0A HZA
  have xA := BXA.out
  obtain ⟨_, x0, x1, x2, x3⟩ := xA
  go_wp2_with fail
  refine (toNode_any n a cap w.heap.size WA (HH.out.stays C3.out (Nat.le_refl _)) C3.out.size HN.out).mono ?_
  rintro e w4 ⟨⟨g4, rfl, t1⟩, b4⟩
  have z4 := b4.size
  have c4 := C3.out.trans (b4.mono C3.out.size)
  have BX4 := hide (BXA.out.next b4)
  have BA4 := hide (BA.out.next b4)
  have T04 := hide (T0A.out.stays b4 (fun x hx => by have := hx.2; have := HZA.out; omega))
  have T1 := hide t1
  have BB4 := hide ((Below.refl w4.heap.size w4).alloc (Nat.le_refl _) (Obj.cells #[.string n.ns, .string n.nm, .string n.tx, .slice (some ⟨g4, 0, none⟩) n.ks.length n.ks.length] 28))
  have BP4 := hide (BoxN.made w4 (some ⟨g4, 0, none⟩) n.ks.length n 28)
  have HZB : Hid ((w4.alloc (Obj.cells #[.string n.ns, .string n.nm, .string n.tx, .slice (some ⟨g4, 0, none⟩) n.ks.length n.ks.length] 28)).heap.size = w4.heap.size + 1) := (by simp : _ = _)
  clear hWA x0 x1 x2 x3 b4 t1 BXA BA T0A T0 BB
  obtain ⟨WB, hWB⟩ : ∃ WB, (w4.alloc (Obj.cells #[.string n.ns, .string n.nm, .string n.tx, .slice (some ⟨g4, 0, none⟩) n.ks.length n.ks.length] 28)) = WB := ⟨_, rfl⟩
  rw [hWB] at BB4 BP4 HZB
  have C4 := hide (c4.trans (BB4.out.mono c4.size))
  have BXB := hide (BX4.out.next BB4.out)
  have BAB := hide (BA4.out.next BB4.out)
  have T0B := hide (T04.out.stays BB4.out (fun x hx => by have := hx.2; have := HZA.out; omega))
  have T1B := hide (T1.out.stays BB4.out (fun x hx => hx.2))
  have NB := hide (T1B.out.nds (B := w4.heap.size) (fun x hx => hx.2))
  have xB := BP4.out
  obtain ⟨_, x0, x1, x2, x3⟩ := xB
  clear BX4 BA4 T04 T1 c4
  go_wp2_with fail
  refine (HKI.out (some ⟨g4, 0, none⟩) n.ks.length w4.heap.size WB NB.out (by have := HZB.out; omega)).mono ?_
  rintro e w5 ⟨⟨ag, cg, rfl, t2⟩, b5⟩
  have z5 := b5.size
  have c5 := C4.out.trans (b5.mono C4.out.size)
  have BX5 := hide (BXB.out.next b5)
  have BA5 := hide (BAB.out.next b5)
  have BP5 := hide (BP4.out.next b5)
  have T05 := hide (T0B.out.stays b5 (fun x hx => by have := hx.2; have := HZA.out; have := HZB.out; omega))
  have T15 := hide (T1B.out.stays b5 (fun x hx => by have := hx.2; have := HZB.out; omega))
  have T2 := hide t2
  have BB5 := hide ((Below.refl w5.heap.size w5).alloc (Nat.le_refl _) (Obj.cells #[.string m.ns, .string m.nm, .string m.tx, .slice ag m.ks.length cg] 28))
  have BG5 := hide (BoxN.made w5 ag cg m 28)
  have HZC : Hid ((w5.alloc (Obj.cells #[.string m.ns, .string m.nm, .string m.tx, .slice ag m.ks.length cg] 28)).heap.size = w5.heap.size + 1) := (by simp : _ = _)
  clear hWB x0 x1 x2 x3 b5 t2 BXB BAB T0B T1B NB BP4
  obtain ⟨WC, hWC⟩ : ∃ WC, (w5.alloc (Obj.cells #[.string m.ns, .string m.nm, .string m.tx, .slice ag m.ks.length cg] 28)) = WC := ⟨_, rfl⟩
  rw [hWC] at BB5 BG5 HZC
  have AP : Hid (ApK w.heap.size w3.heap.size w4.heap.size w5.heap.size (Ivl w2.heap.size w3.heap.size) (Ivl WA.heap.size w4.heap.size) (Ivl WB.heap.size w5.heap.size)) := by
    have e1 := HZA.out
    have e2 := HZB.out
    refine ⟨fun x hx => ?_, fun x hx => ?_, fun x hx hy => ?_, fun x hx hy => ?_, fun x hx hy => ?_⟩
    all_goals (first | unfold Ivl at hx hy | unfold Ivl at hx)
    all_goals omega
  have STC : Hid (StK w WC n m a cap w3.heap.size w4.heap.size w5.heap.size am (some ⟨g4, 0, none⟩) ag cm n.ks.length cg n.ks m.ks (Ivl w2.heap.size w3.heap.size) (Ivl WA.heap.size w4.heap.size) (Ivl WB.heap.size w5.heap.size)) := by
    have e1 := HZA.out
    have e2 := HZB.out
    have e3 := HZC.out
    exact ⟨BX5.out.next BB5.out, BA5.out.next BB5.out, BP5.out.next BB5.out, BG5.out, c5.trans (BB5.out.mono c5.size), T05.out.stays BB5.out (fun x hx => by have := hx.2; omega), T15.out.stays BB5.out (fun x hx => by have := hx.2; omega), T2.out.stays BB5.out (fun x hx => hx.2), fun x hx => by have := hx.2; omega, fun x hx => by have := hx.2; omega, fun x hx => by have := hx.2; omega⟩
  clear BX5 BA5 BP5 T05 T15 T2 BG5 BB5 c5 C3 C4 BX1 HX0 HB0 S2 BB4
  have HS0 : Hid (∀ x, Ivl w2.heap.size w3.heap.size x → x < WC.heap.size) := STC.out.l0
  generalize Ivl w2.heap.size w3.heap.size = S0 at *
  generalize Ivl WA.heap.size w4.heap.size = S1 at *
  generalize Ivl WB.heap.size w5.heap.size = S2 at *
  generalize w3.heap.size = p0 at *
  generalize w4.heap.size = p1 at *
  generalize hp2 : w5.heap.size = p2 at *
  have HE := hide (fun (W : World) (a1 a2 : Option Addr) (c1 c2 : Nat) (T1 T2 : Nat → Prop) (h1 : OwnK W a1 m.ks T1) (h2 : OwnK W a2 m.ks T2) (l1 : ∀ x, T1 x → x < W.heap.size) (l2 : ∀ x, T2 x → x < W.heap.size) => eqNode_any m m a1 a2 c1 c2 W.heap.size W.heap.size W (h1.nds l1) (h2.nds l2) (Nat.le_refl _) (Nat.le_refl _) HMH.out HMH.out)
  simp only [same_refl] at HE
  obtain ⟨u0, u1, u2, u3, v0, v1, v2, v3⟩ := keepB STC.out.b2 STC.out.b0
  go_wp2_with fail
  refine (HE.out WC ag am cg cm S2 S0 STC.out.t2 STC.out.t0 STC.out.l2 STC.out.l0).mono ?_
  rintro e w6 ⟨rfl, b6⟩
  have ST6 := hide (STC.out.next b6)
  clear hWC u0 u1 u2 u3 v0 v1 v2 v3 b6 STC
  have K6 := hide (keepB ST6.out.b1 ST6.out.x)
  have ST6d := hide ST6.out.drew
  have c6d := ST6d.out.c
  have hqa6 := toNode_any n a cap w.heap.size w6.drew (HH.out.stays c6d (Nat.le_refl _)) c6d.size HN.out
  go_wp2
  go_region_held3 (fun W => W.cell? ⟨p1, 0, none⟩ = some (.string n.ns) ∧ W.cell? ⟨p1, 1, none⟩ = some (.string n.nm) ∧ W.cell? ⟨p1, 2, none⟩ = some (.string n.tx) ∧ W.cell? ⟨p1, 3, none⟩ = some (.slice (some ⟨g4, 0, none⟩) n.ks.length n.ks.length) ∧ W.cell? ⟨w.heap.size, 0, none⟩ = some (.string n.ns) ∧ W.cell? ⟨w.heap.size, 1, none⟩ = some (.string n.nm) ∧ W.cell? ⟨w.heap.size, 2, none⟩ = some (.string n.tx) ∧ W.cell? ⟨w.heap.size, 3, none⟩ = some (.slice a n.ks.length cap)) (first | exact K6.out | exact K7.out | exact K8.out) (first
    | (go_at_call 6; refine hqa6.mono ?_; rintro e w7 ⟨⟨g7, rfl, s7'⟩, b7⟩; have ST7 := hide (ST6d.out.next b7); have K7 := hide (keepB ST7.out.b1 ST7.out.x); have s7 := OwnK.nds s7' (B := w7.heap.size) (fun x hx => hx.2); have n7 := OwnK.nds ST7.out.t1 (B := w7.heap.size) ST7.out.l1)
    | (go_at_call 8; refine (eqNode_any n n _ _ _ _ _ _ w7 n7 s7 (Nat.le_refl _) (Nat.le_refl _) HS.out HS.out).mono ?_; rintro e w8 ⟨rfl, b8⟩; rw [same_refl]; have ST8 := hide (ST7.out.next b8); have K8 := hide (keepB ST8.out.b1 ST8.out.x)))
  clear hqa6 K6 K7 K8 ST6 ST6d ST7 s7 s7' n7 b7 b8 c6d
  obtain ⟨_, u0, u1, u2, u3⟩ := ST8.out.b1
  go_wp2_with fail
  refine (markNode_any n (some ⟨g4, 0, none⟩) n.ks.length S1 w8 ST8.out.t1 ST8.out.l1 HNC.out).mono ?_
  rintro e w9 ⟨rfl, o9, t9⟩
  have ST9 := hide (ST8.out.mark1 AP.out t9 o9)
  clear u0 u1 u2 u3 o9 t9 ST8
  generalize 1 + 3 * cntL n.ks = kx at *
  obtain ⟨u0, u1, u2, u3, v0, v1, v2, v3⟩ := keepB ST9.out.b2 ST9.out.b0
  go_wp2_with fail
  refine (HE.out w9 ag am cg cm S2 S0 ST9.out.t2 ST9.out.t0 ST9.out.l2 ST9.out.l0).mono ?_
  rintro e w10 ⟨rfl, b10⟩
  have ST10 := hide (ST9.out.next b10)
  clear u0 u1 u2 u3 v0 v1 v2 v3 b10 ST9
  obtain ⟨_, u0, u1, u2, u3⟩ := ST10.out.b2
  go_wp2_with fail
  refine (markNode_any m ag cg S2 w10 ST10.out.t2 ST10.out.l2 HMC.out).mono ?_
  rintro e w11 ⟨rfl, o11, t11⟩
  have ST11 := hide (ST10.out.mark2 AP.out t11 o11)
  clear u0 u1 u2 u3 o11 t11 ST10
  have HCL : Hid (cntL m.ks ≤ 2000000) := (by have h1 := HMC.out; have h2 := cnt_ks m; omega : cntL m.ks ≤ 2000000)
  have HHD := hide (fun (W : World) (h : OwnK W ag (mkL m.ks 1) S2) (l : ∀ x, S2 x → x < W.heap.size) => heldNode_any m.ns m.nm m.tx m.ks ag cg W.heap.size W (h.nds l) (Nat.le_refl _) HCL.out)
  generalize 1 + 3 * cntL m.ks = km at *
  obtain ⟨_, u0, u1, u2, u3⟩ := ST11.out.b2
  go_wp2_with fail
  refine (HHD.out w11 ST11.out.t2 ST11.out.l2).mono ?_
  rintro e w12 ⟨rfl, b12⟩
  have ST12 := hide (ST11.out.next b12)
  clear u0 u1 u2 u3 b12 ST11
  obtain ⟨_, u0, u1, u2, u3⟩ := ST12.out.x
  go_wp2_with fail
  refine (toNode_any n a cap w.heap.size w12 (HH.out.stays ST12.out.c (Nat.le_refl _)) ST12.out.c.size HN.out).mono ?_
  rintro e w13 ⟨⟨g13, rfl, s13⟩, b13⟩
  have ST13 := hide (ST12.out.next b13)
  have N13 := hide (OwnK.nds s13 (B := w13.heap.size) (fun x hx => hx.2))
  clear u0 u1 u2 u3 b13 s13 ST12
  go_wp2_with fail
  refine (HKI.out _ _ _ w13 N13.out (Nat.le_refl _)).mono ?_
  rintro e w14 ⟨⟨ah, ch, rfl, t14⟩, b14⟩
  have ST14 := hide (ST13.out.next b14)
  have BBD := hide ((Below.refl w14.heap.size w14).alloc (Nat.le_refl _) (Obj.cells #[.string m.ns, .string m.nm, .string m.tx, .slice ah m.ks.length ch] 28))
  have BHD := hide (BoxN.made w14 ah ch m 28)
  have TH := hide t14
  clear t14 b14 N13 ST13
  obtain ⟨WD, hWD⟩ : ∃ WD, (w14.alloc (Obj.cells #[.string m.ns, .string m.nm, .string m.tx, .slice ah m.ks.length ch] 28)) = WD := ⟨_, rfl⟩
  rw [hWD] at BBD BHD
  have STD := hide (ST14.out.next BBD.out)
  have THD := hide (TH.out.stays BBD.out (fun x hx => hx.2))
  obtain ⟨u0, u1, u2, u3, v0, v1, v2, v3⟩ := keepB BHD.out STD.out.b0
  clear ST14 TH
  go_wp2_with fail
  refine (HE.out WD ah am ch cm _ S0 THD.out STD.out.t0 (fun x hx => Nat.lt_of_lt_of_le hx.2 BBD.out.size) STD.out.l0).mono ?_
  rintro e w15 ⟨rfl, b15⟩
  have ST15 := hide (STD.out.next b15)
  clear u0 u1 u2 u3 v0 v1 v2 v3 b15 hWD STD
  obtain ⟨_, u0, u1, u2, u3⟩ := ST15.out.b2
  go_wp2_with fail
  refine (HHD.out w15 ST15.out.t2 ST15.out.l2).mono ?_
  rintro e w16 ⟨rfl, b16⟩
  have ST16 := hide (ST15.out.next b16)
  clear u0 u1 u2 u3 b16 ST15
  go_wp2
  go_ret
  exact ⟨rfl, ST16.out.c⟩
end Go.Proofs.Ytanebchmeaomgab
