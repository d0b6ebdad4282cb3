/-
  What impl.turned does, whatever turns.
-/
import Derived.Test.YtcgljeagjchobaaGreatGenPick
import Derived.Test.YtcgljeagjchobaaGreatCopySrv
import Derived.Test.YtcgljeagjchobaaGreatSrvOkT
namespace Go.Proofs.YtcgljeagjchobaaGreat
open Go.RowKit M
set_option linter.unusedVariables false

set_option maxRecDepth 100000 in
set_option maxHeartbeats 8000000 in
theorem turned_any (fn : Nat) (hE : ∀ args w, (callFunc fn args).run Tryz.prog w = .ok (.enter fn args) w) (cp : Array Value) (x y : Sv) (ta : Option Addr) (tc : Nat) (la : Option Addr) (lc : Nat) (da : Option Addr) (dc : Nat) (ua : Option Addr) (uc B : Nat) (w : World) (h : SvIn w B x ta tc la lc da dc ua uc) (hB : B ≤ w.heap.size) (hs : SvSmall x)
    (hF : srvB x = true → ∀ (W : World) (N : Nat) (u0 u1 u4 u5 : Value), Below w.heap.size w W → w.heap.size + 2 ≤ N → BoxV W N [u0, u1, .int .i64 x.now, .int .i64 x.ver, u4, u5] → SrvV W (w.heap.size + 2) N x u0 u1 u4 u5 → Calls Tryz.prog fn (#[.pointer (some ⟨N, 0, none⟩)] ++ cp) W fun e w' => (∃ v, e = .returned v) ∧ (∃ (a0 : Option Addr) (c0 : Nat) (a1 : Option Addr) (c1 : Nat) (a4 : Option Addr) (c4 : Nat) (a5 : Option Addr) (c5 : Nat), BoxV w' N [.slice a0 y.t.length c0, .slice a1 y.l.length c1, .int .i64 y.now, .int .i64 y.ver, .slice a4 y.dr.length c4, .slice a5 y.us.length c5] ∧ SrvV w' (w.heap.size + 2) w'.heap.size y (.slice a0 y.t.length c0) (.slice a1 y.l.length c1) (.slice a4 y.dr.length c4) (.slice a5 y.us.length c5)) ∧ (∀ R vs, R < N → BoxV W R vs → BoxV w' R vs) ∧ Below w.heap.size w w') :
    Calls Tryz.prog 39 #[.agg #[.slice ta x.t.length tc, .slice la x.l.length lc, .int .i64 x.now, .int .i64 x.ver, .slice da x.dr.length dc, .slice ua x.us.length uc], .func (.func fn) #[] cp] w fun e w' => (∃ u0 u1 u4 u5 : Value, e = .returned (.agg #[u0, u1, .int .i64 (if srvB x = true then y else x).now, .int .i64 (if srvB x = true then y else x).ver, u4, u5]) ∧ SrvV w' w.heap.size w'.heap.size (if srvB x = true then y else x) u0 u1 u4 u5) ∧ Below w.heap.size w w' := by
  have K0 := hide (show Below w.heap.size w ((w.alloc (Obj.cells #[.slice ta x.t.length tc, .slice la x.l.length lc, .int .i64 x.now, .int .i64 x.ver, .slice da x.dr.length dc, .slice ua x.us.length uc] 32)).alloc (Obj.cells #[.slice none 0 0, .slice none 0 0, .int .i64 0, .int .i64 0, .slice none 0 0, .slice none 0 0] 32)) from ((Below.refl _ _).alloc (Nat.le_refl _) _).alloc (by simp) _)
  have X0 := hide ((BoxV.made w [.slice ta x.t.length tc, .slice la x.l.length lc, .int .i64 x.now, .int .i64 x.ver, .slice da x.dr.length dc, .slice ua x.us.length uc] 32).alloc (Obj.cells #[.slice none 0 0, .slice none 0 0, .int .i64 0, .int .i64 0, .slice none 0 0, .slice none 0 0] 32))
  have Y0 := hide (show BoxV ((w.alloc (Obj.cells #[.slice ta x.t.length tc, .slice la x.l.length lc, .int .i64 x.now, .int .i64 x.ver, .slice da x.dr.length dc, .slice ua x.us.length uc] 32)).alloc (Obj.cells #[.slice none 0 0, .slice none 0 0, .int .i64 0, .int .i64 0, .slice none 0 0, .slice none 0 0] 32)) (w.heap.size + 1) [.slice none 0 0, .slice none 0 0, .int .i64 0, .int .i64 0, .slice none 0 0, .slice none 0 0] by
    have h := BoxV.made (w.alloc (Obj.cells #[.slice ta x.t.length tc, .slice la x.l.length lc, .int .i64 x.now, .int .i64 x.ver, .slice da x.dr.length dc, .slice ua x.us.length uc] 32)) [.slice none 0 0, .slice none 0 0, .int .i64 0, .int .i64 0, .slice none 0 0, .slice none 0 0] 32
    simpa using h)
  have HC := hide (fun W (hb : Below w.heap.size w W) => copySrv_any x ta tc la lc da dc ua uc B W (h.below hb hB) (Nat.le_trans hB hb.size) hs)
  have HO := hide (fun W (hb : Below w.heap.size w W) => srvOk_any x ta tc la lc da dc ua uc B W (h.below hb hB) (Nat.le_trans hB hb.size) hs)
  have HF := hide hF
  have HE := hide hE
  obtain ⟨y2, hy2⟩ : ∃ t, (if srvB x = true then y else x) = t := ⟨_, rfl⟩
  rw [hy2]
  have HY := hide hy2
  clear h hs hF hE hy2
  go_enter Tryz.func39, Tryz.ntmps39
  go_wp2_with fail
  refine (HC.out _ K0.out).mono ?_
  rintro e w1 ⟨⟨p0, p1, p4, p5, n0, n1, n4, rfl, o0, z0, o1, z1, o4, z4, o5, z5⟩, b1⟩
  have zz : w.heap.size + 2 ≤ n0 := by simp at z0; omega
  have V1 := hide (show SrvV w1 (w.heap.size + 2) w1.heap.size x (.slice (some ⟨p0, 0, none⟩) x.t.length x.t.length) (.slice (some ⟨p1, 0, none⟩) x.l.length x.l.length) (.slice (some ⟨p4, 0, none⟩) x.dr.length x.dr.length) (.slice (some ⟨p5, 0, none⟩) x.us.length x.us.length) from
    ⟨w.heap.size + 2, n0, n0, n1, n1, n4, n4, w1.heap.size, ⟨o0.up (by simp) (Nat.le_refl _), Nat.le_refl _, by omega⟩, ⟨o1, zz, by omega⟩, ⟨o4, by omega, by omega⟩, ⟨o5, by omega, Nat.le_refl _⟩, .inl (Nat.le_refl _), .inl (by omega), .inl (by omega), .inl (Nat.le_refl _), .inl (by omega), .inl (Nat.le_refl _)⟩)
  have K1 := hide (K0.out.trans (b1.mono K0.out.size))
  have X1 := hide (X0.out.next b1)
  have Y1 := hide (Y0.out.next b1)
  have zw : w.heap.size + 2 ≤ w1.heap.size := by omega
  clear o0 o1 o4 o5 z0 z1 z4 z5 zz b1 K0 X0 Y0 HC
  have Z2 := hide (BoxV.made w1 [.slice (some ⟨p0, 0, none⟩) x.t.length x.t.length, .slice (some ⟨p1, 0, none⟩) x.l.length x.l.length, .int .i64 x.now, .int .i64 x.ver, .slice (some ⟨p4, 0, none⟩) x.dr.length x.dr.length, .slice (some ⟨p5, 0, none⟩) x.us.length x.us.length] 32)
  have b2 := (Below.refl w1.heap.size w1).alloc (Nat.le_refl _) (Obj.cells #[.slice (some ⟨p0, 0, none⟩) x.t.length x.t.length, .slice (some ⟨p1, 0, none⟩) x.l.length x.l.length, .int .i64 x.now, .int .i64 x.ver, .slice (some ⟨p4, 0, none⟩) x.dr.length x.dr.length, .slice (some ⟨p5, 0, none⟩) x.us.length x.us.length] 32)
  have K2 := hide (K1.out.trans (b2.mono K1.out.size))
  have X2 := hide (X1.out.next b2)
  have Y2 := hide (Y1.out.next b2)
  have V2 := hide (V1.out.next b2)
  clear b2 K1 X1 Y1 V1
  obtain ⟨c0, _⟩ := X2.out.2 0 _ rfl
  obtain ⟨c1, _⟩ := X2.out.2 1 _ rfl
  obtain ⟨c2, _⟩ := X2.out.2 2 _ rfl
  obtain ⟨c3, _⟩ := X2.out.2 3 _ rfl
  obtain ⟨c4, _⟩ := X2.out.2 4 _ rfl
  obtain ⟨c5, _⟩ := X2.out.2 5 _ rfl
  go_wp2_with fail
  refine (HO.out _ K2.out).mono ?_
  rintro e w3 ⟨rfl, b3⟩
  have K3 := hide (K2.out.trans (b3.mono K2.out.size))
  have Y3 := hide (Y2.out.next b3)
  have Z3 := hide (Z2.out.next b3)
  have V3 := hide (V2.out.next b3)
  have zn : w1.heap.size < w3.heap.size := Z3.out.1
  clear c0 c1 c2 c3 c4 c5 b3 K2 X2 Y2 Z2 V2 HO
  obtain ⟨ok, hok⟩ : ∃ z, srvB x = z := ⟨_, rfl⟩
  rw [hok] at HF HY ⊢
  clear hok
  cases ok
  · obtain rfl : x = y2 := by have e := HY.out; simpa using e
    obtain ⟨c0, _⟩ := Z3.out.2 0 _ rfl
    obtain ⟨c1, _⟩ := Z3.out.2 1 _ rfl
    obtain ⟨c2, _⟩ := Z3.out.2 2 _ rfl
    obtain ⟨c3, _⟩ := Z3.out.2 3 _ rfl
    obtain ⟨c4, _⟩ := Z3.out.2 4 _ rfl
    obtain ⟨c5, _⟩ := Z3.out.2 5 _ rfl
    obtain ⟨d0, f0⟩ := Y3.out.2 0 _ rfl
    obtain ⟨d1, f1⟩ := Y3.out.2 1 _ rfl
    obtain ⟨d2, f2⟩ := Y3.out.2 2 _ rfl
    obtain ⟨d3, f3⟩ := Y3.out.2 3 _ rfl
    obtain ⟨d4, f4⟩ := Y3.out.2 4 _ rfl
    obtain ⟨d5, f5⟩ := Y3.out.2 5 _ rfl
    have YE := hide (((((((Y3.out.set 0 (by simp) (.slice (some ⟨p0, 0, none⟩) x.t.length x.t.length)).set 1 (by simp) (.slice (some ⟨p1, 0, none⟩) x.l.length x.l.length)).set 2 (by simp) (.int .i64 x.now)).set 3 (by simp) (.int .i64 x.ver)).set 4 (by simp) (.slice (some ⟨p4, 0, none⟩) x.dr.length x.dr.length)).set 5 (by simp) (.slice (some ⟨p5, 0, none⟩) x.us.length x.us.length)))
    go_wp2
    obtain ⟨r0, _⟩ := YE.out.2 0 _ rfl
    obtain ⟨r1, _⟩ := YE.out.2 1 _ rfl
    obtain ⟨r2, _⟩ := YE.out.2 2 _ rfl
    obtain ⟨r3, _⟩ := YE.out.2 3 _ rfl
    obtain ⟨r4, _⟩ := YE.out.2 4 _ rfl
    obtain ⟨r5, _⟩ := YE.out.2 5 _ rfl
    refine bodyPost_ret (v := .agg #[.slice (some ⟨p0, 0, none⟩) x.t.length x.t.length, .slice (some ⟨p1, 0, none⟩) x.l.length x.l.length, .int .i64 x.now, .int .i64 x.ver, .slice (some ⟨p4, 0, none⟩) x.dr.length x.dr.length, .slice (some ⟨p5, 0, none⟩) x.us.length x.us.length]) (by simp [results, Tryz.results39, go_sem, r0, r1, r2, r3, r4, r5]) rfl ⟨⟨_, _, _, _, rfl, ?_⟩, ?_⟩
    · refine SrvV.wide (lo := w.heap.size + 2) (hi := w1.heap.size) ?_ (by omega) (by simp; omega)
      repeat' refine SrvV.setCell ?_ _ _ (.inl (by dsimp only; omega))
      exact V3.out
    · repeat' refine Below.setCell ?_ (by dsimp only; omega) _
      exact K3.out
  · obtain rfl : y = y2 := by have e := HY.out; simpa using e
    go_wp2_with fail
    rw [HE.out, Oper.upon_enter]
    refine (HF.out (by trivial) w3 w1.heap.size _ _ _ _ K3.out zw Z3.out V3.out).mono ?_
    rintro e w4 ⟨⟨v, rfl⟩, ⟨a0, g0, a1, g1, a4, g4, a5, g5, bx, sv⟩, kp, b4⟩
    have Y4 := hide (kp _ _ (by omega) Y3.out)
    have Z4 := hide bx
    have V4 := hide sv
    have K4 := hide b4
    clear kp bx sv b4 K3 Y3 Z3 V3 HF HE
    obtain ⟨c0, _⟩ := Z4.out.2 0 _ rfl
    obtain ⟨c1, _⟩ := Z4.out.2 1 _ rfl
    obtain ⟨c2, _⟩ := Z4.out.2 2 _ rfl
    obtain ⟨c3, _⟩ := Z4.out.2 3 _ rfl
    obtain ⟨c4, _⟩ := Z4.out.2 4 _ rfl
    obtain ⟨c5, _⟩ := Z4.out.2 5 _ rfl
    obtain ⟨d0, f0⟩ := Y4.out.2 0 _ rfl
    obtain ⟨d1, f1⟩ := Y4.out.2 1 _ rfl
    obtain ⟨d2, f2⟩ := Y4.out.2 2 _ rfl
    obtain ⟨d3, f3⟩ := Y4.out.2 3 _ rfl
    obtain ⟨d4, f4⟩ := Y4.out.2 4 _ rfl
    obtain ⟨d5, f5⟩ := Y4.out.2 5 _ rfl
    have YE := hide (((((((Y4.out.set 0 (by simp) (.slice a0 y.t.length g0)).set 1 (by simp) (.slice a1 y.l.length g1)).set 2 (by simp) (.int .i64 y.now)).set 3 (by simp) (.int .i64 y.ver)).set 4 (by simp) (.slice a4 y.dr.length g4)).set 5 (by simp) (.slice a5 y.us.length g5)))
    go_wp2
    obtain ⟨r0, _⟩ := YE.out.2 0 _ rfl
    obtain ⟨r1, _⟩ := YE.out.2 1 _ rfl
    obtain ⟨r2, _⟩ := YE.out.2 2 _ rfl
    obtain ⟨r3, _⟩ := YE.out.2 3 _ rfl
    obtain ⟨r4, _⟩ := YE.out.2 4 _ rfl
    obtain ⟨r5, _⟩ := YE.out.2 5 _ rfl
    refine bodyPost_ret (v := .agg #[.slice a0 y.t.length g0, .slice a1 y.l.length g1, .int .i64 y.now, .int .i64 y.ver, .slice a4 y.dr.length g4, .slice a5 y.us.length g5]) (by simp [results, Tryz.results39, go_sem, r0, r1, r2, r3, r4, r5]) rfl ⟨⟨_, _, _, _, rfl, ?_⟩, ?_⟩
    · refine SrvV.wide (lo := w.heap.size + 2) (hi := w4.heap.size) ?_ (by omega) (by simp)
      repeat' refine SrvV.setCell ?_ _ _ (.inl (by dsimp only; omega))
      exact V4.out
    · repeat' refine Below.setCell ?_ (by dsimp only; omega) _
      exact K4.out
end Go.Proofs.YtcgljeagjchobaaGreat
