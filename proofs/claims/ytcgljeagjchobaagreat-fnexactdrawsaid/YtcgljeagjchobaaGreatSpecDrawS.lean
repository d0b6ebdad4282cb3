/-
  What spec.Draw does.
-/
import Derived.Test.YtcgljeagjchobaaGreatSpecCopyS
import Derived.Test.YtcgljeagjchobaaGreatSpecSrvOk
import Derived.Test.YtcgljeagjchobaaGreatDrawSI
namespace Go.Proofs.YtcgljeagjchobaaGreat
open Go.RowKit M
set_option linter.unusedVariables false

set_option maxRecDepth 100000 in
set_option maxHeartbeats 8000000 in
theorem specDraw_any (x : Sv) (n : Int) (ta : Option Addr) (tc : Nat) (la : Option Addr) (lc : Nat) (da : Option Addr) (dc : Nat) (ua : Option Addr) (uc B : Nat) (w : World) (h : SvIn w B x ta tc la lc da dc ua uc) (hB : B ≤ w.heap.size) (hs : SvSmall x) :
    Calls Tryz.prog 15 #[.agg #[.slice ta x.t.length tc, .slice la x.l.length lc, .int .i64 x.now, .int .i64 x.ver, .slice da x.dr.length dc, .slice ua x.us.length uc], .int .i64 n] w fun e w' => (∃ u0 u1 u4 u5 : Value, e = .returned (.agg #[u0, u1, .int .i64 (if srvB x = true then drawS x n else x).now, .int .i64 (if srvB x = true then drawS x n else x).ver, u4, u5]) ∧ View w' w'.heap.size u0 (.l ((if srvB x = true then drawS x n else x).t.map dRs)) ∧ View w' w'.heap.size u1 (.l ((if srvB x = true then drawS x n else x).l.map dLk)) ∧ View w' w'.heap.size u4 (.l ((if srvB x = true then drawS x n else x).dr.map dI)) ∧ View w' w'.heap.size u5 (.l ((if srvB x = true then drawS x n else x).us.map dI))) ∧ Below w.heap.size w w' := by
  have K0 := hide (show Below w.heap.size w ((w.alloc (Obj.cells #[.slice ta x.t.length tc, .slice la x.l.length lc, .int .i64 x.now, .int .i64 x.ver, .slice da x.dr.length dc, .slice ua x.us.length uc] 32)).alloc (Obj.cells #[.slice none 0 0, .slice none 0 0, .int .i64 0, .int .i64 0, .slice none 0 0, .slice none 0 0] 32)) from ((Below.refl _ _).alloc (Nat.le_refl _) _).alloc (by simp) _)
  have X0 := hide (show BoxV ((w.alloc (Obj.cells #[.slice ta x.t.length tc, .slice la x.l.length lc, .int .i64 x.now, .int .i64 x.ver, .slice da x.dr.length dc, .slice ua x.us.length uc] 32)).alloc (Obj.cells #[.slice none 0 0, .slice none 0 0, .int .i64 0, .int .i64 0, .slice none 0 0, .slice none 0 0] 32)) w.heap.size [.slice ta x.t.length tc, .slice la x.l.length lc, .int .i64 x.now, .int .i64 x.ver, .slice da x.dr.length dc, .slice ua x.us.length uc] from (BoxV.made w [.slice ta x.t.length tc, .slice la x.l.length lc, .int .i64 x.now, .int .i64 x.ver, .slice da x.dr.length dc, .slice ua x.us.length uc] 32).alloc _)
  have Z0 := hide (show BoxV ((w.alloc (Obj.cells #[.slice ta x.t.length tc, .slice la x.l.length lc, .int .i64 x.now, .int .i64 x.ver, .slice da x.dr.length dc, .slice ua x.us.length uc] 32)).alloc (Obj.cells #[.slice none 0 0, .slice none 0 0, .int .i64 0, .int .i64 0, .slice none 0 0, .slice none 0 0] 32)) (w.heap.size + 1) [.slice none 0 0, .slice none 0 0, .int .i64 0, .int .i64 0, .slice none 0 0, .slice none 0 0] by have h := BoxV.made (w.alloc (Obj.cells #[.slice ta x.t.length tc, .slice la x.l.length lc, .int .i64 x.now, .int .i64 x.ver, .slice da x.dr.length dc, .slice ua x.us.length uc] 32)) [.slice none 0 0, .slice none 0 0, .int .i64 0, .int .i64 0, .slice none 0 0, .slice none 0 0] 32; simpa using h)
  have HC := hide (fun W (hb : Below w.heap.size w W) => specL15Copy_any x ta tc la lc da dc ua uc B W (h.below hb hB) (Nat.le_trans hB hb.size) hs)
  have HO := hide (fun W (hb : Below w.heap.size w W) => specSrvOk_any x ta tc la lc da dc ua uc B W (h.below hb hB) (Nat.le_trans hB hb.size) hs)
  have hdl : x.dr.length ≤ 1048576 := hs.d
  obtain ⟨y2, hy2⟩ : ∃ t, (if srvB x = true then drawS x n else x) = t := ⟨_, rfl⟩
  rw [hy2]
  have HY := hide hy2
  clear h hs hB hy2
  go_enter Tryz.func15, Tryz.ntmps15
  have x0 := (X0.out.2 0 _ rfl).1
  have x1 := (X0.out.2 1 _ rfl).1
  have x2 := (X0.out.2 2 _ rfl).1
  have x3 := (X0.out.2 3 _ rfl).1
  have x4 := (X0.out.2 4 _ rfl).1
  have x5 := (X0.out.2 5 _ rfl).1
  go_wp2_with fail
  clear x0 x1 x2 x3 x4 x5
  refine (HC.out _ K0.out).mono ?_
  rintro e w1 ⟨⟨p0, c0, p1, c1, p4, c4, p5, c5, l0, h0, l1, h1, rfl, VT, VL, OD, OU, s0, s1, s4, s5, a0, a1, a5, a6⟩, b1⟩
  have s0 : w.heap.size + 2 ≤ l0 := by have := K0.out.size; omega
  have s1 : w.heap.size + 2 ≤ l1 := by have := K0.out.size; omega
  have s4 : w.heap.size + 2 ≤ p4 := by have := K0.out.size; omega
  have s5 : w.heap.size + 2 ≤ p5 := by have := K0.out.size; omega
  have T1 := hide VT
  have L1 := hide VL
  have D1 := hide (OD.low K0.out.size)
  have U1 := hide (OU.low K0.out.size)
  clear VT VL OD OU HC
  have K1 := hide (K0.out.trans (b1.mono K0.out.size))
  have X1 := hide (X0.out.next b1)
  have Z1 := hide (Z0.out.next b1)
  have e0 : h0 ≤ w1.heap.size := T1.out.1
  have e1 : h1 ≤ w1.heap.size := L1.out.1
  have t5 : p5 < w1.heap.size := (World.ownsRow.lt U1.out p5 rfl).2
  have t4 : p4 < w1.heap.size := (World.ownsRow.lt D1.out p4 rfl).2
  clear b1 K0 X0 Z0
  have M2 := hide (BoxV.made w1 [.slice (some ⟨p0, 0, none⟩) x.t.length c0, .slice (some ⟨p1, 0, none⟩) x.l.length c1, .int .i64 x.now, .int .i64 x.ver, .slice (some ⟨p4, 0, none⟩) x.dr.length c4, .slice (some ⟨p5, 0, none⟩) x.us.length c5] 32)
  have b2 := (Below.refl w1.heap.size w1).alloc (Nat.le_refl _) (Obj.cells #[.slice (some ⟨p0, 0, none⟩) x.t.length c0, .slice (some ⟨p1, 0, none⟩) x.l.length c1, .int .i64 x.now, .int .i64 x.ver, .slice (some ⟨p4, 0, none⟩) x.dr.length c4, .slice (some ⟨p5, 0, none⟩) x.us.length c5] 32)
  have K2 := hide (K1.out.trans (b2.mono K1.out.size))
  have X2 := hide (X1.out.next b2)
  have Z2 := hide (Z1.out.next b2)
  have T2 := hide (T1.out.next b2)
  have L2 := hide (L1.out.next b2)
  have D2 := hide (D1.out.next b2)
  have U2 := hide (U1.out.next b2)
  clear b2 K1 X1 Z1 T1 L1 D1 U1
  obtain ⟨M, hM⟩ : ∃ m, w1.heap.size = m := ⟨_, rfl⟩
  have zM : M ≤ w1.heap.size := Nat.le_of_eq hM.symm
  have zN : w1.heap.size ≤ M := Nat.le_of_eq hM
  have zz1 : w.heap.size + 2 ≤ w1.heap.size := by omega
  have mT : h0 ≤ M := by have := e0; omega
  have mL : h1 ≤ M := by have := e1; omega
  have m5 : p5 < M := by omega
  have x0 := (X2.out.2 0 _ rfl).1
  have x1 := (X2.out.2 1 _ rfl).1
  have x2 := (X2.out.2 2 _ rfl).1
  have x3 := (X2.out.2 3 _ rfl).1
  have x4 := (X2.out.2 4 _ rfl).1
  have x5 := (X2.out.2 5 _ rfl).1
  have HM := hide hM
  clear hM
  go_wp2_with fail
  clear x0 x1 x2 x3 x4 x5
  refine (HO.out _ K2.out).mono ?_
  rintro e w3 ⟨rfl, b3⟩
  rw [HM.out] at M2 ⊢
  have K3 := hide (K2.out.trans (b3.mono K2.out.size))
  have X3 := hide (X2.out.next b3)
  have Z3 := hide (Z2.out.next b3)
  have M3 := hide (M2.out.next b3)
  have T3 := hide (T2.out.next b3)
  have L3 := hide (L2.out.next b3)
  have D3 := hide (D2.out.next b3)
  have U3 := hide (U2.out.next b3)
  clear b3 K2 X2 Z2 M2 T2 L2 D2 U2
  clear HO HM
  have zn : M < w3.heap.size := M3.out.1
  obtain ⟨ok, hok⟩ : ∃ z, srvB x = z := ⟨_, rfl⟩
  rw [hok] at HY ⊢
  clear hok
  cases ok
  · obtain rfl : x = y2 := by have e := HY.out; simpa using e
    have m0 := (M3.out.2 0 _ rfl).1
    have m1 := (M3.out.2 1 _ rfl).1
    have m2 := (M3.out.2 2 _ rfl).1
    have m3 := (M3.out.2 3 _ rfl).1
    have m4 := (M3.out.2 4 _ rfl).1
    have m5 := (M3.out.2 5 _ rfl).1
    obtain ⟨d0, f0⟩ := Z3.out.2 0 _ rfl
    obtain ⟨d1, f1⟩ := Z3.out.2 1 _ rfl
    obtain ⟨d2, f2⟩ := Z3.out.2 2 _ rfl
    obtain ⟨d3, f3⟩ := Z3.out.2 3 _ rfl
    obtain ⟨d4, f4⟩ := Z3.out.2 4 _ rfl
    obtain ⟨d5, f5⟩ := Z3.out.2 5 _ rfl
    have ZE := hide ((((((Z3.out.set 0 (by simp) (.slice (some ⟨p0, 0, none⟩) x.t.length c0)).set 1 (by simp) (.slice (some ⟨p1, 0, none⟩) x.l.length c1)).set 2 (by simp) (.int .i64 x.now)).set 3 (by simp) (.int .i64 x.ver)).set 4 (by simp) (.slice (some ⟨p4, 0, none⟩) x.dr.length c4)).set 5 (by simp) (.slice (some ⟨p5, 0, none⟩) x.us.length c5))
    have KE := hide ((((((K3.out.setCell (p := ⟨w.heap.size + 1, 0, none⟩) (by show w.heap.size ≤ w.heap.size + 1; omega) (.slice (some ⟨p0, 0, none⟩) x.t.length c0)).setCell (p := ⟨w.heap.size + 1, 1, none⟩) (by show w.heap.size ≤ w.heap.size + 1; omega) (.slice (some ⟨p1, 0, none⟩) x.l.length c1)).setCell (p := ⟨w.heap.size + 1, 2, none⟩) (by show w.heap.size ≤ w.heap.size + 1; omega) (.int .i64 x.now)).setCell (p := ⟨w.heap.size + 1, 3, none⟩) (by show w.heap.size ≤ w.heap.size + 1; omega) (.int .i64 x.ver)).setCell (p := ⟨w.heap.size + 1, 4, none⟩) (by show w.heap.size ≤ w.heap.size + 1; omega) (.slice (some ⟨p4, 0, none⟩) x.dr.length c4)).setCell (p := ⟨w.heap.size + 1, 5, none⟩) (by show w.heap.size ≤ w.heap.size + 1; omega) (.slice (some ⟨p5, 0, none⟩) x.us.length c5))
    have TE := hide ((((((T3.out.setCell ⟨w.heap.size + 1, 0, none⟩ (.slice (some ⟨p0, 0, none⟩) x.t.length c0) (.inl (by show w.heap.size + 1 < _; omega))).setCell ⟨w.heap.size + 1, 1, none⟩ (.slice (some ⟨p1, 0, none⟩) x.l.length c1) (.inl (by show w.heap.size + 1 < _; omega))).setCell ⟨w.heap.size + 1, 2, none⟩ (.int .i64 x.now) (.inl (by show w.heap.size + 1 < _; omega))).setCell ⟨w.heap.size + 1, 3, none⟩ (.int .i64 x.ver) (.inl (by show w.heap.size + 1 < _; omega))).setCell ⟨w.heap.size + 1, 4, none⟩ (.slice (some ⟨p4, 0, none⟩) x.dr.length c4) (.inl (by show w.heap.size + 1 < _; omega))).setCell ⟨w.heap.size + 1, 5, none⟩ (.slice (some ⟨p5, 0, none⟩) x.us.length c5) (.inl (by show w.heap.size + 1 < _; omega)))
    have LE := hide ((((((L3.out.setCell ⟨w.heap.size + 1, 0, none⟩ (.slice (some ⟨p0, 0, none⟩) x.t.length c0) (.inl (by show w.heap.size + 1 < _; omega))).setCell ⟨w.heap.size + 1, 1, none⟩ (.slice (some ⟨p1, 0, none⟩) x.l.length c1) (.inl (by show w.heap.size + 1 < _; omega))).setCell ⟨w.heap.size + 1, 2, none⟩ (.int .i64 x.now) (.inl (by show w.heap.size + 1 < _; omega))).setCell ⟨w.heap.size + 1, 3, none⟩ (.int .i64 x.ver) (.inl (by show w.heap.size + 1 < _; omega))).setCell ⟨w.heap.size + 1, 4, none⟩ (.slice (some ⟨p4, 0, none⟩) x.dr.length c4) (.inl (by show w.heap.size + 1 < _; omega))).setCell ⟨w.heap.size + 1, 5, none⟩ (.slice (some ⟨p5, 0, none⟩) x.us.length c5) (.inl (by show w.heap.size + 1 < _; omega)))
    have UE := hide ((((((U3.out.keepB (Below.heap_setCell _ ⟨w.heap.size + 1, 0, none⟩ (.slice (some ⟨p0, 0, none⟩) x.t.length c0) _ (by show p5 ≠ w.heap.size + 1; omega))).keepB (Below.heap_setCell _ ⟨w.heap.size + 1, 1, none⟩ (.slice (some ⟨p1, 0, none⟩) x.l.length c1) _ (by show p5 ≠ w.heap.size + 1; omega))).keepB (Below.heap_setCell _ ⟨w.heap.size + 1, 2, none⟩ (.int .i64 x.now) _ (by show p5 ≠ w.heap.size + 1; omega))).keepB (Below.heap_setCell _ ⟨w.heap.size + 1, 3, none⟩ (.int .i64 x.ver) _ (by show p5 ≠ w.heap.size + 1; omega))).keepB (Below.heap_setCell _ ⟨w.heap.size + 1, 4, none⟩ (.slice (some ⟨p4, 0, none⟩) x.dr.length c4) _ (by show p5 ≠ w.heap.size + 1; omega))).keepB (Below.heap_setCell _ ⟨w.heap.size + 1, 5, none⟩ (.slice (some ⟨p5, 0, none⟩) x.us.length c5) _ (by show p5 ≠ w.heap.size + 1; omega)))
    have DE := hide ((((((D3.out.keepB (Below.heap_setCell _ ⟨w.heap.size + 1, 0, none⟩ (.slice (some ⟨p0, 0, none⟩) x.t.length c0) _ (by show p4 ≠ w.heap.size + 1; omega))).keepB (Below.heap_setCell _ ⟨w.heap.size + 1, 1, none⟩ (.slice (some ⟨p1, 0, none⟩) x.l.length c1) _ (by show p4 ≠ w.heap.size + 1; omega))).keepB (Below.heap_setCell _ ⟨w.heap.size + 1, 2, none⟩ (.int .i64 x.now) _ (by show p4 ≠ w.heap.size + 1; omega))).keepB (Below.heap_setCell _ ⟨w.heap.size + 1, 3, none⟩ (.int .i64 x.ver) _ (by show p4 ≠ w.heap.size + 1; omega))).keepB (Below.heap_setCell _ ⟨w.heap.size + 1, 4, none⟩ (.slice (some ⟨p4, 0, none⟩) x.dr.length c4) _ (by show p4 ≠ w.heap.size + 1; omega))).keepB (Below.heap_setCell _ ⟨w.heap.size + 1, 5, none⟩ (.slice (some ⟨p5, 0, none⟩) x.us.length c5) _ (by show p4 ≠ w.heap.size + 1; omega)))
    clear K3 Z3 M3 T3 L3 U3 D3
    go_wp2
    have r0 := (ZE.out.2 0 _ rfl).1
    have r1 := (ZE.out.2 1 _ rfl).1
    have r2 := (ZE.out.2 2 _ rfl).1
    have r3 := (ZE.out.2 3 _ rfl).1
    have r4 := (ZE.out.2 4 _ rfl).1
    have r5 := (ZE.out.2 5 _ rfl).1
    refine bodyPost_ret (v := .agg #[.slice (some ⟨p0, 0, none⟩) x.t.length c0, .slice (some ⟨p1, 0, none⟩) x.l.length c1, .int .i64 x.now, .int .i64 x.ver, .slice (some ⟨p4, 0, none⟩) x.dr.length c4, .slice (some ⟨p5, 0, none⟩) x.us.length c5]) (by simp [results, Tryz.results15, go_sem, r0, r1, r2, r3, r4, r5]) rfl ⟨⟨_, _, _, _, rfl, TE.out.view, LE.out.view, ?_, view_of_ints UE.out⟩, KE.out⟩
    exact view_of_ints DE.out
  · have x4 := (X3.out.2 4 _ rfl).1
    by_cases hlt : x.dr.length < 20
    · obtain rfl : { x with dr := x.dr ++ [n] } = y2 := by have e := HY.out; simpa [drawS, hlt] using e
      have hi : (x.dr.length : Int) < 20 := by omega
      have HLT := hide hlt
      clear hlt HY
      have m4 := (M3.out.2 4 _ rfl).1
      have bA := (Below.refl w3.heap.size w3).alloc (Nat.le_refl _) (Obj.cells #[.int .i64 n] 3)
      have K4 := hide (K3.out.trans (bA.mono K3.out.size))
      have Z4 := hide (Z3.out.next bA)
      have M4 := hide (M3.out.next bA)
      have T4 := hide (T3.out.next bA)
      have L4 := hide (L3.out.next bA)
      have D4 := hide (D3.out.next bA)
      have U4 := hide (U3.out.next bA)
      have hz4 : w.heap.size ≤ (w3.alloc (Obj.cells #[.int .i64 n] 3)).heap.size := K4.out.size
      have hln : x.dr.length + 1 ≤ 100000000000 := by omega
      clear bA K3 Z3 M3 T3 L3 D3 U3
      go_wp2_with (at_builtin; refine wp_append_gen 24 Tryz.underlying24 (.int .i64 0) 8 infoI rfl (by decide) (by decide) rfl _ _ rfl w.heap.size _ x.dr rfl D4.out ci_len _ n rfl (fun i v hv => by match i with | 0 => (cases hv; simp) | i + 1 => cases hv) (fun v hv => by simp [ci] at hv; subst hv; rfl) hln hz4 ?_)
      intro g9 n9 c9 w9 hn9 hO9 hb9 hg9 hat
      have hg : (w3.alloc (Obj.cells #[.int .i64 n] 3)).grownBy w9 (some p4) := hg9
      have sg : w.heap.size + 2 ≤ g9 ∧ (g9 < l0 ∨ h0 ≤ g9) ∧ (g9 < l1 ∨ h1 ≤ g9) ∧ g9 ≠ M ∧ g9 ≠ p5 := by
        have q0 := T4.out.1
        have q1 := L4.out.1
        have q5 := (World.ownsRow.lt U4.out p5 rfl).2
        have q6 := M4.out.1
        rcases hat with e2 | e2
        · have e3 : p4 = g9 := Option.some.inj e2
          subst e3
          exact ⟨s4, a0, a1, by omega, a5⟩
        · have q7 : (w3.alloc (Obj.cells #[.int .i64 n] 3)).heap.size = w3.heap.size + 1 := by simp
          exact ⟨by omega, .inr (by omega), .inr (by omega), by omega, by omega⟩
      obtain ⟨g1, g2, g3, g4, g5⟩ := sg
      have x4 : True := trivial
      have Z5 := hide (Z4.out.turn (turn_of_grown hg) (by show ¬ _ = _; omega))
      have M5 := hide (M4.out.turn (turn_of_grown hg) (by show ¬ _ = _; omega))
      have T5 := hide (T4.out.grown hg a0)
      have L5 := hide (L4.out.grown hg a1)
      have U5 := hide (U4.out.keepB (hg.block p5 (World.ownsRow.lt U4.out p5 rfl).2 (fun e => a5 (Option.some.inj e).symm)))
      have K5 := hide (K4.out.trans hb9)
      have D5 := hide hO9
      clear hg9 hg hO9 hb9 hat K4 Z4 M4 T4 L4 D4 U4 m4
      obtain ⟨j4, j5⟩ := M5.out.2 4 _ rfl
      have M6 := hide (M5.out.set 4 (by simp) (.slice (some ⟨g9, 0, none⟩) n9 c9))
      have Z6 := hide (Z5.out.other ⟨M, 4, none⟩ (.slice (some ⟨g9, 0, none⟩) n9 c9) (by show M ≠ _; omega))
      have T6 := hide (T5.out.setCell ⟨M, 4, none⟩ (.slice (some ⟨g9, 0, none⟩) n9 c9) (.inr mT))
      have L6 := hide (L5.out.setCell ⟨M, 4, none⟩ (.slice (some ⟨g9, 0, none⟩) n9 c9) (.inr mL))
      have U6 := hide (U5.out.keepB (Below.heap_setCell _ ⟨M, 4, none⟩ (.slice (some ⟨g9, 0, none⟩) n9 c9) _ (by show p5 ≠ M; omega)))
      have D6 := hide (D5.out.keepB (Below.heap_setCell _ ⟨M, 4, none⟩ (.slice (some ⟨g9, 0, none⟩) n9 c9) _ (by show g9 ≠ M; omega)))
      have K6 := hide (K5.out.setCell (p := ⟨M, 4, none⟩) (by show w.heap.size ≤ M; omega) (.slice (some ⟨g9, 0, none⟩) n9 c9))
      clear Z5 T5 L5 U5 D5 K5 x4
      have HN9 := hide hn9
      clear hn9
      have m0 := (M6.out.2 0 _ rfl).1
      have m1 := (M6.out.2 1 _ rfl).1
      have m2 := (M6.out.2 2 _ rfl).1
      have m3 := (M6.out.2 3 _ rfl).1
      have m4 := (M6.out.2 4 _ rfl).1
      have m5 := (M6.out.2 5 _ rfl).1
      obtain ⟨d0, f0⟩ := Z6.out.2 0 _ rfl
      obtain ⟨d1, f1⟩ := Z6.out.2 1 _ rfl
      obtain ⟨d2, f2⟩ := Z6.out.2 2 _ rfl
      obtain ⟨d3, f3⟩ := Z6.out.2 3 _ rfl
      obtain ⟨d4, f4⟩ := Z6.out.2 4 _ rfl
      obtain ⟨d5, f5⟩ := Z6.out.2 5 _ rfl
      have ZE := hide ((((((Z6.out.set 0 (by simp) (.slice (some ⟨p0, 0, none⟩) x.t.length c0)).set 1 (by simp) (.slice (some ⟨p1, 0, none⟩) x.l.length c1)).set 2 (by simp) (.int .i64 x.now)).set 3 (by simp) (.int .i64 x.ver)).set 4 (by simp) (.slice (some ⟨g9, 0, none⟩) n9 c9)).set 5 (by simp) (.slice (some ⟨p5, 0, none⟩) x.us.length c5))
      have KE := hide ((((((K6.out.setCell (p := ⟨w.heap.size + 1, 0, none⟩) (by show w.heap.size ≤ w.heap.size + 1; omega) (.slice (some ⟨p0, 0, none⟩) x.t.length c0)).setCell (p := ⟨w.heap.size + 1, 1, none⟩) (by show w.heap.size ≤ w.heap.size + 1; omega) (.slice (some ⟨p1, 0, none⟩) x.l.length c1)).setCell (p := ⟨w.heap.size + 1, 2, none⟩) (by show w.heap.size ≤ w.heap.size + 1; omega) (.int .i64 x.now)).setCell (p := ⟨w.heap.size + 1, 3, none⟩) (by show w.heap.size ≤ w.heap.size + 1; omega) (.int .i64 x.ver)).setCell (p := ⟨w.heap.size + 1, 4, none⟩) (by show w.heap.size ≤ w.heap.size + 1; omega) (.slice (some ⟨g9, 0, none⟩) n9 c9)).setCell (p := ⟨w.heap.size + 1, 5, none⟩) (by show w.heap.size ≤ w.heap.size + 1; omega) (.slice (some ⟨p5, 0, none⟩) x.us.length c5))
      have TE := hide ((((((T6.out.setCell ⟨w.heap.size + 1, 0, none⟩ (.slice (some ⟨p0, 0, none⟩) x.t.length c0) (.inl (by show w.heap.size + 1 < _; omega))).setCell ⟨w.heap.size + 1, 1, none⟩ (.slice (some ⟨p1, 0, none⟩) x.l.length c1) (.inl (by show w.heap.size + 1 < _; omega))).setCell ⟨w.heap.size + 1, 2, none⟩ (.int .i64 x.now) (.inl (by show w.heap.size + 1 < _; omega))).setCell ⟨w.heap.size + 1, 3, none⟩ (.int .i64 x.ver) (.inl (by show w.heap.size + 1 < _; omega))).setCell ⟨w.heap.size + 1, 4, none⟩ (.slice (some ⟨g9, 0, none⟩) n9 c9) (.inl (by show w.heap.size + 1 < _; omega))).setCell ⟨w.heap.size + 1, 5, none⟩ (.slice (some ⟨p5, 0, none⟩) x.us.length c5) (.inl (by show w.heap.size + 1 < _; omega)))
      have LE := hide ((((((L6.out.setCell ⟨w.heap.size + 1, 0, none⟩ (.slice (some ⟨p0, 0, none⟩) x.t.length c0) (.inl (by show w.heap.size + 1 < _; omega))).setCell ⟨w.heap.size + 1, 1, none⟩ (.slice (some ⟨p1, 0, none⟩) x.l.length c1) (.inl (by show w.heap.size + 1 < _; omega))).setCell ⟨w.heap.size + 1, 2, none⟩ (.int .i64 x.now) (.inl (by show w.heap.size + 1 < _; omega))).setCell ⟨w.heap.size + 1, 3, none⟩ (.int .i64 x.ver) (.inl (by show w.heap.size + 1 < _; omega))).setCell ⟨w.heap.size + 1, 4, none⟩ (.slice (some ⟨g9, 0, none⟩) n9 c9) (.inl (by show w.heap.size + 1 < _; omega))).setCell ⟨w.heap.size + 1, 5, none⟩ (.slice (some ⟨p5, 0, none⟩) x.us.length c5) (.inl (by show w.heap.size + 1 < _; omega)))
      have UE := hide ((((((U6.out.keepB (Below.heap_setCell _ ⟨w.heap.size + 1, 0, none⟩ (.slice (some ⟨p0, 0, none⟩) x.t.length c0) _ (by show p5 ≠ w.heap.size + 1; omega))).keepB (Below.heap_setCell _ ⟨w.heap.size + 1, 1, none⟩ (.slice (some ⟨p1, 0, none⟩) x.l.length c1) _ (by show p5 ≠ w.heap.size + 1; omega))).keepB (Below.heap_setCell _ ⟨w.heap.size + 1, 2, none⟩ (.int .i64 x.now) _ (by show p5 ≠ w.heap.size + 1; omega))).keepB (Below.heap_setCell _ ⟨w.heap.size + 1, 3, none⟩ (.int .i64 x.ver) _ (by show p5 ≠ w.heap.size + 1; omega))).keepB (Below.heap_setCell _ ⟨w.heap.size + 1, 4, none⟩ (.slice (some ⟨g9, 0, none⟩) n9 c9) _ (by show p5 ≠ w.heap.size + 1; omega))).keepB (Below.heap_setCell _ ⟨w.heap.size + 1, 5, none⟩ (.slice (some ⟨p5, 0, none⟩) x.us.length c5) _ (by show p5 ≠ w.heap.size + 1; omega)))
      have DE := hide ((((((D6.out.keepB (Below.heap_setCell _ ⟨w.heap.size + 1, 0, none⟩ (.slice (some ⟨p0, 0, none⟩) x.t.length c0) _ (by show g9 ≠ w.heap.size + 1; omega))).keepB (Below.heap_setCell _ ⟨w.heap.size + 1, 1, none⟩ (.slice (some ⟨p1, 0, none⟩) x.l.length c1) _ (by show g9 ≠ w.heap.size + 1; omega))).keepB (Below.heap_setCell _ ⟨w.heap.size + 1, 2, none⟩ (.int .i64 x.now) _ (by show g9 ≠ w.heap.size + 1; omega))).keepB (Below.heap_setCell _ ⟨w.heap.size + 1, 3, none⟩ (.int .i64 x.ver) _ (by show g9 ≠ w.heap.size + 1; omega))).keepB (Below.heap_setCell _ ⟨w.heap.size + 1, 4, none⟩ (.slice (some ⟨g9, 0, none⟩) n9 c9) _ (by show g9 ≠ w.heap.size + 1; omega))).keepB (Below.heap_setCell _ ⟨w.heap.size + 1, 5, none⟩ (.slice (some ⟨p5, 0, none⟩) x.us.length c5) _ (by show g9 ≠ w.heap.size + 1; omega)))
      clear K6 Z6 M6 T6 L6 U6 D6
      go_wp2
      have r0 := (ZE.out.2 0 _ rfl).1
      have r1 := (ZE.out.2 1 _ rfl).1
      have r2 := (ZE.out.2 2 _ rfl).1
      have r3 := (ZE.out.2 3 _ rfl).1
      have r4 := (ZE.out.2 4 _ rfl).1
      have r5 := (ZE.out.2 5 _ rfl).1
      refine bodyPost_ret (v := .agg #[.slice (some ⟨p0, 0, none⟩) x.t.length c0, .slice (some ⟨p1, 0, none⟩) x.l.length c1, .int .i64 x.now, .int .i64 x.ver, .slice (some ⟨g9, 0, none⟩) n9 c9, .slice (some ⟨p5, 0, none⟩) x.us.length c5]) (by simp [results, Tryz.results15, go_sem, r0, r1, r2, r3, r4, r5]) rfl ⟨⟨_, _, _, _, rfl, TE.out.view, LE.out.view, ?_, view_of_ints UE.out⟩, KE.out⟩
      have e := view_of_ints DE.out
      have e2 : (x.dr ++ [n]).map dI = x.dr.map dI ++ [dI n] := by simp
      rw [e2] at e
      exact e
    · obtain rfl : x = y2 := by have e := HY.out; simpa [drawS, hlt] using e
      have hi : ¬ (x.dr.length : Int) < 20 := by omega
      have m0 := (M3.out.2 0 _ rfl).1
      have m1 := (M3.out.2 1 _ rfl).1
      have m2 := (M3.out.2 2 _ rfl).1
      have m3 := (M3.out.2 3 _ rfl).1
      have m4 := (M3.out.2 4 _ rfl).1
      have m5 := (M3.out.2 5 _ rfl).1
      obtain ⟨d0, f0⟩ := Z3.out.2 0 _ rfl
      obtain ⟨d1, f1⟩ := Z3.out.2 1 _ rfl
      obtain ⟨d2, f2⟩ := Z3.out.2 2 _ rfl
      obtain ⟨d3, f3⟩ := Z3.out.2 3 _ rfl
      obtain ⟨d4, f4⟩ := Z3.out.2 4 _ rfl
      obtain ⟨d5, f5⟩ := Z3.out.2 5 _ rfl
      have ZE := hide ((((((Z3.out.set 0 (by simp) (.slice (some ⟨p0, 0, none⟩) x.t.length c0)).set 1 (by simp) (.slice (some ⟨p1, 0, none⟩) x.l.length c1)).set 2 (by simp) (.int .i64 x.now)).set 3 (by simp) (.int .i64 x.ver)).set 4 (by simp) (.slice (some ⟨p4, 0, none⟩) x.dr.length c4)).set 5 (by simp) (.slice (some ⟨p5, 0, none⟩) x.us.length c5))
      have KE := hide ((((((K3.out.setCell (p := ⟨w.heap.size + 1, 0, none⟩) (by show w.heap.size ≤ w.heap.size + 1; omega) (.slice (some ⟨p0, 0, none⟩) x.t.length c0)).setCell (p := ⟨w.heap.size + 1, 1, none⟩) (by show w.heap.size ≤ w.heap.size + 1; omega) (.slice (some ⟨p1, 0, none⟩) x.l.length c1)).setCell (p := ⟨w.heap.size + 1, 2, none⟩) (by show w.heap.size ≤ w.heap.size + 1; omega) (.int .i64 x.now)).setCell (p := ⟨w.heap.size + 1, 3, none⟩) (by show w.heap.size ≤ w.heap.size + 1; omega) (.int .i64 x.ver)).setCell (p := ⟨w.heap.size + 1, 4, none⟩) (by show w.heap.size ≤ w.heap.size + 1; omega) (.slice (some ⟨p4, 0, none⟩) x.dr.length c4)).setCell (p := ⟨w.heap.size + 1, 5, none⟩) (by show w.heap.size ≤ w.heap.size + 1; omega) (.slice (some ⟨p5, 0, none⟩) x.us.length c5))
      have TE := hide ((((((T3.out.setCell ⟨w.heap.size + 1, 0, none⟩ (.slice (some ⟨p0, 0, none⟩) x.t.length c0) (.inl (by show w.heap.size + 1 < _; omega))).setCell ⟨w.heap.size + 1, 1, none⟩ (.slice (some ⟨p1, 0, none⟩) x.l.length c1) (.inl (by show w.heap.size + 1 < _; omega))).setCell ⟨w.heap.size + 1, 2, none⟩ (.int .i64 x.now) (.inl (by show w.heap.size + 1 < _; omega))).setCell ⟨w.heap.size + 1, 3, none⟩ (.int .i64 x.ver) (.inl (by show w.heap.size + 1 < _; omega))).setCell ⟨w.heap.size + 1, 4, none⟩ (.slice (some ⟨p4, 0, none⟩) x.dr.length c4) (.inl (by show w.heap.size + 1 < _; omega))).setCell ⟨w.heap.size + 1, 5, none⟩ (.slice (some ⟨p5, 0, none⟩) x.us.length c5) (.inl (by show w.heap.size + 1 < _; omega)))
      have LE := hide ((((((L3.out.setCell ⟨w.heap.size + 1, 0, none⟩ (.slice (some ⟨p0, 0, none⟩) x.t.length c0) (.inl (by show w.heap.size + 1 < _; omega))).setCell ⟨w.heap.size + 1, 1, none⟩ (.slice (some ⟨p1, 0, none⟩) x.l.length c1) (.inl (by show w.heap.size + 1 < _; omega))).setCell ⟨w.heap.size + 1, 2, none⟩ (.int .i64 x.now) (.inl (by show w.heap.size + 1 < _; omega))).setCell ⟨w.heap.size + 1, 3, none⟩ (.int .i64 x.ver) (.inl (by show w.heap.size + 1 < _; omega))).setCell ⟨w.heap.size + 1, 4, none⟩ (.slice (some ⟨p4, 0, none⟩) x.dr.length c4) (.inl (by show w.heap.size + 1 < _; omega))).setCell ⟨w.heap.size + 1, 5, none⟩ (.slice (some ⟨p5, 0, none⟩) x.us.length c5) (.inl (by show w.heap.size + 1 < _; omega)))
      have UE := hide ((((((U3.out.keepB (Below.heap_setCell _ ⟨w.heap.size + 1, 0, none⟩ (.slice (some ⟨p0, 0, none⟩) x.t.length c0) _ (by show p5 ≠ w.heap.size + 1; omega))).keepB (Below.heap_setCell _ ⟨w.heap.size + 1, 1, none⟩ (.slice (some ⟨p1, 0, none⟩) x.l.length c1) _ (by show p5 ≠ w.heap.size + 1; omega))).keepB (Below.heap_setCell _ ⟨w.heap.size + 1, 2, none⟩ (.int .i64 x.now) _ (by show p5 ≠ w.heap.size + 1; omega))).keepB (Below.heap_setCell _ ⟨w.heap.size + 1, 3, none⟩ (.int .i64 x.ver) _ (by show p5 ≠ w.heap.size + 1; omega))).keepB (Below.heap_setCell _ ⟨w.heap.size + 1, 4, none⟩ (.slice (some ⟨p4, 0, none⟩) x.dr.length c4) _ (by show p5 ≠ w.heap.size + 1; omega))).keepB (Below.heap_setCell _ ⟨w.heap.size + 1, 5, none⟩ (.slice (some ⟨p5, 0, none⟩) x.us.length c5) _ (by show p5 ≠ w.heap.size + 1; omega)))
      have DE := hide ((((((D3.out.keepB (Below.heap_setCell _ ⟨w.heap.size + 1, 0, none⟩ (.slice (some ⟨p0, 0, none⟩) x.t.length c0) _ (by show p4 ≠ w.heap.size + 1; omega))).keepB (Below.heap_setCell _ ⟨w.heap.size + 1, 1, none⟩ (.slice (some ⟨p1, 0, none⟩) x.l.length c1) _ (by show p4 ≠ w.heap.size + 1; omega))).keepB (Below.heap_setCell _ ⟨w.heap.size + 1, 2, none⟩ (.int .i64 x.now) _ (by show p4 ≠ w.heap.size + 1; omega))).keepB (Below.heap_setCell _ ⟨w.heap.size + 1, 3, none⟩ (.int .i64 x.ver) _ (by show p4 ≠ w.heap.size + 1; omega))).keepB (Below.heap_setCell _ ⟨w.heap.size + 1, 4, none⟩ (.slice (some ⟨p4, 0, none⟩) x.dr.length c4) _ (by show p4 ≠ w.heap.size + 1; omega))).keepB (Below.heap_setCell _ ⟨w.heap.size + 1, 5, none⟩ (.slice (some ⟨p5, 0, none⟩) x.us.length c5) _ (by show p4 ≠ w.heap.size + 1; omega)))
      clear K3 Z3 M3 T3 L3 U3 D3
      go_wp2
      have r0 := (ZE.out.2 0 _ rfl).1
      have r1 := (ZE.out.2 1 _ rfl).1
      have r2 := (ZE.out.2 2 _ rfl).1
      have r3 := (ZE.out.2 3 _ rfl).1
      have r4 := (ZE.out.2 4 _ rfl).1
      have r5 := (ZE.out.2 5 _ rfl).1
      refine bodyPost_ret (v := .agg #[.slice (some ⟨p0, 0, none⟩) x.t.length c0, .slice (some ⟨p1, 0, none⟩) x.l.length c1, .int .i64 x.now, .int .i64 x.ver, .slice (some ⟨p4, 0, none⟩) x.dr.length c4, .slice (some ⟨p5, 0, none⟩) x.us.length c5]) (by simp [results, Tryz.results15, go_sem, r0, r1, r2, r3, r4, r5]) rfl ⟨⟨_, _, _, _, rfl, TE.out.view, LE.out.view, ?_, view_of_ints UE.out⟩, KE.out⟩
      exact view_of_ints DE.out
end Go.Proofs.YtcgljeagjchobaaGreat
