/-
  A help of the laws, by program (tools/gen_help.py): To1 of Srv.
-/
import Derived.Test.YtckhjemojopekaaRows
import Derived.Test.YtckhjemojopekaaMathSmall
import Derived.Test.YtckhjemojopekaaGenAsk
import Derived.Test.YtckhjemojopekaaGenTooResS
import Derived.Test.YtckhjemojopekaaGenTooLockS
import Derived.Test.YtckhjemojopekaaGenTooIntS
import Derived.WalkKit
import Derived.WalkSpells
import Derived.WalkLawsBesides
import Derived.Deep.Light
import Derived.Deep.QuietTactic
import Derived.Deep.RegionHeld3
namespace Go.Proofs.Ytckhjemojopekaa
open Go.RowKit M
set_option linter.unusedVariables false

set_option maxRecDepth 100000 in
set_option maxHeartbeats 4000000 in
theorem toSrv_gen (x : Sv) (u0 u1 u4 u5 : Value) (B : Nat) (w : World) (h0 : View w B u0 (.l (x.t.map dRs))) (h1 : View w B u1 (.l (x.l.map dLk))) (h4 : View w B u4 (.l (x.dr.map dI))) (h5 : View w B u5 (.l (x.us.map dI))) (hB : B ≤ w.heap.size) (hsz : szR (dSv x) ≤ 1048576) :
    Calls Try.prog 13 #[.agg #[u0, u1, .int .i64 x.now, .int .i64 x.ver, u4, u5]] w fun e w' => (∃ (p0 p1 p4 p5 n0 n1 n4 n5 : Nat), e = .returned (.agg #[.slice (some ⟨p0, 0, none⟩) (x.t).length (x.t).length, .slice (some ⟨p1, 0, none⟩) (x.l).length (x.l).length, .int .i64 x.now, .int .i64 x.ver, .slice (some ⟨p4, 0, none⟩) (x.dr).length (x.dr).length, .slice (some ⟨p5, 0, none⟩) (x.us).length (x.us).length]) ∧ Own w' (.slice (some ⟨p0, 0, none⟩) (x.t).length (x.t).length) (.l (x.t.map dRs)) (IvG w.heap.size n0) ∧ w.heap.size ≤ n0 ∧ Own w' (.slice (some ⟨p1, 0, none⟩) (x.l).length (x.l).length) (.l (x.l.map dLk)) (IvG n0 n1) ∧ n0 ≤ n1 ∧ Own w' (.slice (some ⟨p4, 0, none⟩) (x.dr).length (x.dr).length) (.l (x.dr.map dI)) (IvG n1 n4) ∧ n1 ≤ n4 ∧ Own w' (.slice (some ⟨p5, 0, none⟩) (x.us).length (x.us).length) (.l (x.us.map dI)) (IvG n4 n5) ∧ n4 ≤ n5 ∧ n5 ≤ w'.heap.size) ∧ Below w.heap.size w w' := by
  have hsum : szR (dSv x) = szRs (x.t.map dRs) + szRs (x.l.map dLk) + szRs (x.dr.map dI) + szRs (x.us.map dI) := by simp [dSv, szR, szF, szV]; try omega
  rw [hsum] at hsz
  clear hsum
  have K0 := hide (show Below w.heap.size w (((w.alloc (Obj.cells #[u0, u1, .int .i64 x.now, .int .i64 x.ver, u4, u5] 37)).alloc (Obj.cells #[.slice none 0 0, .slice none 0 0, .int .i64 0, .int .i64 0, .slice none 0 0, .slice none 0 0] 47)).alloc (Obj.cells #[.slice none 0 0, .slice none 0 0, .int .i64 0, .int .i64 0, .slice none 0 0, .slice none 0 0] 47)) from (((Below.refl _ _).alloc (Nat.le_refl _) _).alloc (by simp) _).alloc (by simp; omega) _)
  have X0 := hide (show BoxV (((w.alloc (Obj.cells #[u0, u1, .int .i64 x.now, .int .i64 x.ver, u4, u5] 37)).alloc (Obj.cells #[.slice none 0 0, .slice none 0 0, .int .i64 0, .int .i64 0, .slice none 0 0, .slice none 0 0] 47)).alloc (Obj.cells #[.slice none 0 0, .slice none 0 0, .int .i64 0, .int .i64 0, .slice none 0 0, .slice none 0 0] 47)) w.heap.size [u0, u1, .int .i64 x.now, .int .i64 x.ver, u4, u5] from ((BoxV.made w [u0, u1, .int .i64 x.now, .int .i64 x.ver, u4, u5] 37).alloc _).alloc _)
  have Y0 := hide (show BoxV (((w.alloc (Obj.cells #[u0, u1, .int .i64 x.now, .int .i64 x.ver, u4, u5] 37)).alloc (Obj.cells #[.slice none 0 0, .slice none 0 0, .int .i64 0, .int .i64 0, .slice none 0 0, .slice none 0 0] 47)).alloc (Obj.cells #[.slice none 0 0, .slice none 0 0, .int .i64 0, .int .i64 0, .slice none 0 0, .slice none 0 0] 47)) (w.heap.size + 1) [.slice none 0 0, .slice none 0 0, .int .i64 0, .int .i64 0, .slice none 0 0, .slice none 0 0] by have h := (BoxV.made (w.alloc (Obj.cells #[u0, u1, .int .i64 x.now, .int .i64 x.ver, u4, u5] 37)) [.slice none 0 0, .slice none 0 0, .int .i64 0, .int .i64 0, .slice none 0 0, .slice none 0 0] 47).alloc (Obj.cells #[.slice none 0 0, .slice none 0 0, .int .i64 0, .int .i64 0, .slice none 0 0, .slice none 0 0] 47); simpa using h)
  have Z0 := hide (show BoxV (((w.alloc (Obj.cells #[u0, u1, .int .i64 x.now, .int .i64 x.ver, u4, u5] 37)).alloc (Obj.cells #[.slice none 0 0, .slice none 0 0, .int .i64 0, .int .i64 0, .slice none 0 0, .slice none 0 0] 47)).alloc (Obj.cells #[.slice none 0 0, .slice none 0 0, .int .i64 0, .int .i64 0, .slice none 0 0, .slice none 0 0] 47)) (w.heap.size + 1 + 1) [.slice none 0 0, .slice none 0 0, .int .i64 0, .int .i64 0, .slice none 0 0, .slice none 0 0] by have h := BoxV.made ((w.alloc (Obj.cells #[u0, u1, .int .i64 x.now, .int .i64 x.ver, u4, u5] 37)).alloc (Obj.cells #[.slice none 0 0, .slice none 0 0, .int .i64 0, .int .i64 0, .slice none 0 0, .slice none 0 0] 47)) [.slice none 0 0, .slice none 0 0, .int .i64 0, .int .i64 0, .slice none 0 0, .slice none 0 0] 47; simpa using h)
  go_enter Try.func13, Try.ntmps13
  have HQ := hide (toResS_gen (x.t) u0 B _ (h0.stays K0.out hB) (Nat.le_trans hB K0.out.size) (by omega))
  go_wp2_with fail
  refine HQ.out.mono ?_
  rintro e w1 ⟨⟨p0, rfl, o0⟩, b1⟩
  have k1 := K0.out.trans (b1.mono K0.out.size)
  have x1 := X0.out.next b1
  have y1 := Y0.out.next b1
  have z1 := Z0.out.next b1
  have P0 := hide (o0.up (l' := w.heap.size + 1 + 1 + 1) (u' := w1.heap.size) (by simp) (Nat.le_refl _))
  have zs1 : w.heap.size + 1 + 1 < w1.heap.size := z1.1
  have zl1 : w.heap.size + 1 + 1 + 1 ≤ w1.heap.size := by omega
  have n0 := hide (show w.heap.size ≤ w1.heap.size by have := b1.size; simp at this; omega)
  obtain ⟨d0, f0⟩ := z1.2 0 _ rfl
  have K1 := hide (k1.setCell (p := ⟨w.heap.size + 1 + 1, 0, none⟩) (by show w.heap.size ≤ w.heap.size + 1 + 1; omega) (.slice (some ⟨p0, 0, none⟩) (x.t).length (x.t).length))
  have X1 := hide (x1.other ⟨w.heap.size + 1 + 1, 0, none⟩ (.slice (some ⟨p0, 0, none⟩) (x.t).length (x.t).length) (by show w.heap.size + 1 + 1 ≠ w.heap.size; omega))
  have Y1 := hide (y1.other ⟨w.heap.size + 1 + 1, 0, none⟩ (.slice (some ⟨p0, 0, none⟩) (x.t).length (x.t).length) (by show w.heap.size + 1 + 1 ≠ w.heap.size + 1; omega))
  have Z1 := hide (show BoxV (w1.setCell ⟨w.heap.size + 1 + 1, 0, none⟩ (.slice (some ⟨p0, 0, none⟩) (x.t).length (x.t).length)) (w.heap.size + 1 + 1) [.slice (some ⟨p0, 0, none⟩) (x.t).length (x.t).length, .slice none 0 0, .int .i64 0, .int .i64 0, .slice none 0 0, .slice none 0 0] from (z1.set 0 (by simp) (.slice (some ⟨p0, 0, none⟩) (x.t).length (x.t).length)))
  have P0 := hide (P0.out.setCell ⟨w.heap.size + 1 + 1, 0, none⟩ (.slice (some ⟨p0, 0, none⟩) (x.t).length (x.t).length) (fun e => by have h1 := e.1; dsimp only at h1; omega))
  clear k1 x1 y1 z1 o0 b1 HQ K0 X0 Y0 Z0
  have c1 := (X1.out.2 1 _ rfl).1
  have HQ := hide (toLockS_gen (x.l) u1 B _ (h1.stays K1.out hB) (Nat.le_trans hB K1.out.size) (by omega))
  go_wp2_with fail
  refine HQ.out.mono ?_
  rintro e w2 ⟨⟨p1, rfl, o1⟩, b2⟩
  have k2 := K1.out.trans (b2.mono K1.out.size)
  have x2 := X1.out.next b2
  have y2 := Y1.out.next b2
  have z2 := Z1.out.next b2
  have P1 := hide (o1.up (l' := w1.heap.size) (u' := w2.heap.size) (by simp) (Nat.le_refl _))
  have P0 := hide (P0.out.next b2)
  have zs2 : w.heap.size + 1 + 1 < w2.heap.size := z2.1
  have n1 := hide (show w1.heap.size ≤ w2.heap.size by have := b2.size; simp at this; omega)
  obtain ⟨d1, f1⟩ := z2.2 1 _ rfl
  obtain ⟨d2, f2⟩ := z2.2 2 _ rfl
  have c2 := (x2.2 2 _ rfl).1
  obtain ⟨d3, f3⟩ := z2.2 3 _ rfl
  have c3 := (x2.2 3 _ rfl).1
  have K2 := hide (((k2.setCell (p := ⟨w.heap.size + 1 + 1, 1, none⟩) (by show w.heap.size ≤ w.heap.size + 1 + 1; omega) (.slice (some ⟨p1, 0, none⟩) (x.l).length (x.l).length)).setCell (p := ⟨w.heap.size + 1 + 1, 2, none⟩) (by show w.heap.size ≤ w.heap.size + 1 + 1; omega) (.int .i64 x.now)).setCell (p := ⟨w.heap.size + 1 + 1, 3, none⟩) (by show w.heap.size ≤ w.heap.size + 1 + 1; omega) (.int .i64 x.ver))
  have X2 := hide (((x2.other ⟨w.heap.size + 1 + 1, 1, none⟩ (.slice (some ⟨p1, 0, none⟩) (x.l).length (x.l).length) (by show w.heap.size + 1 + 1 ≠ w.heap.size; omega)).other ⟨w.heap.size + 1 + 1, 2, none⟩ (.int .i64 x.now) (by show w.heap.size + 1 + 1 ≠ w.heap.size; omega)).other ⟨w.heap.size + 1 + 1, 3, none⟩ (.int .i64 x.ver) (by show w.heap.size + 1 + 1 ≠ w.heap.size; omega))
  have Y2 := hide (((y2.other ⟨w.heap.size + 1 + 1, 1, none⟩ (.slice (some ⟨p1, 0, none⟩) (x.l).length (x.l).length) (by show w.heap.size + 1 + 1 ≠ w.heap.size + 1; omega)).other ⟨w.heap.size + 1 + 1, 2, none⟩ (.int .i64 x.now) (by show w.heap.size + 1 + 1 ≠ w.heap.size + 1; omega)).other ⟨w.heap.size + 1 + 1, 3, none⟩ (.int .i64 x.ver) (by show w.heap.size + 1 + 1 ≠ w.heap.size + 1; omega))
  have Z2 := hide (show BoxV (((w2.setCell ⟨w.heap.size + 1 + 1, 1, none⟩ (.slice (some ⟨p1, 0, none⟩) (x.l).length (x.l).length)).setCell ⟨w.heap.size + 1 + 1, 2, none⟩ (.int .i64 x.now)).setCell ⟨w.heap.size + 1 + 1, 3, none⟩ (.int .i64 x.ver)) (w.heap.size + 1 + 1) [.slice (some ⟨p0, 0, none⟩) (x.t).length (x.t).length, .slice (some ⟨p1, 0, none⟩) (x.l).length (x.l).length, .int .i64 x.now, .int .i64 x.ver, .slice none 0 0, .slice none 0 0] from (((z2.set 1 (by simp) (.slice (some ⟨p1, 0, none⟩) (x.l).length (x.l).length)).set 2 (by simp) (.int .i64 x.now)).set 3 (by simp) (.int .i64 x.ver)))
  have P0 := hide (((P0.out.setCell ⟨w.heap.size + 1 + 1, 1, none⟩ (.slice (some ⟨p1, 0, none⟩) (x.l).length (x.l).length) (fun e => by have h1 := e.1; dsimp only at h1; omega)).setCell ⟨w.heap.size + 1 + 1, 2, none⟩ (.int .i64 x.now) (fun e => by have h1 := e.1; dsimp only at h1; omega)).setCell ⟨w.heap.size + 1 + 1, 3, none⟩ (.int .i64 x.ver) (fun e => by have h1 := e.1; dsimp only at h1; omega))
  have P1 := hide (((P1.out.setCell ⟨w.heap.size + 1 + 1, 1, none⟩ (.slice (some ⟨p1, 0, none⟩) (x.l).length (x.l).length) (fun e => by have h1 := e.1; dsimp only at h1; omega)).setCell ⟨w.heap.size + 1 + 1, 2, none⟩ (.int .i64 x.now) (fun e => by have h1 := e.1; dsimp only at h1; omega)).setCell ⟨w.heap.size + 1 + 1, 3, none⟩ (.int .i64 x.ver) (fun e => by have h1 := e.1; dsimp only at h1; omega))
  clear k2 x2 y2 z2 o1 b2 HQ K1 X1 Y1 Z1
  have c4 := (X2.out.2 4 _ rfl).1
  have HQ := hide (toIntS_gen (x.dr) u4 B _ (h4.stays K2.out hB) (Nat.le_trans hB K2.out.size) (by omega))
  go_wp2_with fail
  refine HQ.out.mono ?_
  rintro e w3 ⟨⟨p4, rfl, o4⟩, b3⟩
  have k3 := K2.out.trans (b3.mono K2.out.size)
  have x3 := X2.out.next b3
  have y3 := Y2.out.next b3
  have z3 := Z2.out.next b3
  have P4 := hide (o4.up (l' := w2.heap.size) (u' := w3.heap.size) (by simp) (Nat.le_refl _))
  have P0 := hide (P0.out.next b3)
  have P1 := hide (P1.out.next b3)
  have zs3 : w.heap.size + 1 + 1 < w3.heap.size := z3.1
  have n4 := hide (show w2.heap.size ≤ w3.heap.size by have := b3.size; simp at this; omega)
  obtain ⟨d4, f4⟩ := z3.2 4 _ rfl
  have K3 := hide (k3.setCell (p := ⟨w.heap.size + 1 + 1, 4, none⟩) (by show w.heap.size ≤ w.heap.size + 1 + 1; omega) (.slice (some ⟨p4, 0, none⟩) (x.dr).length (x.dr).length))
  have X3 := hide (x3.other ⟨w.heap.size + 1 + 1, 4, none⟩ (.slice (some ⟨p4, 0, none⟩) (x.dr).length (x.dr).length) (by show w.heap.size + 1 + 1 ≠ w.heap.size; omega))
  have Y3 := hide (y3.other ⟨w.heap.size + 1 + 1, 4, none⟩ (.slice (some ⟨p4, 0, none⟩) (x.dr).length (x.dr).length) (by show w.heap.size + 1 + 1 ≠ w.heap.size + 1; omega))
  have Z3 := hide (show BoxV (w3.setCell ⟨w.heap.size + 1 + 1, 4, none⟩ (.slice (some ⟨p4, 0, none⟩) (x.dr).length (x.dr).length)) (w.heap.size + 1 + 1) [.slice (some ⟨p0, 0, none⟩) (x.t).length (x.t).length, .slice (some ⟨p1, 0, none⟩) (x.l).length (x.l).length, .int .i64 x.now, .int .i64 x.ver, .slice (some ⟨p4, 0, none⟩) (x.dr).length (x.dr).length, .slice none 0 0] from (z3.set 4 (by simp) (.slice (some ⟨p4, 0, none⟩) (x.dr).length (x.dr).length)))
  have P0 := hide (P0.out.setCell ⟨w.heap.size + 1 + 1, 4, none⟩ (.slice (some ⟨p4, 0, none⟩) (x.dr).length (x.dr).length) (fun e => by have h1 := e.1; dsimp only at h1; omega))
  have P1 := hide (P1.out.setCell ⟨w.heap.size + 1 + 1, 4, none⟩ (.slice (some ⟨p4, 0, none⟩) (x.dr).length (x.dr).length) (fun e => by have h1 := e.1; dsimp only at h1; omega))
  have P4 := hide (P4.out.setCell ⟨w.heap.size + 1 + 1, 4, none⟩ (.slice (some ⟨p4, 0, none⟩) (x.dr).length (x.dr).length) (fun e => by have h1 := e.1; dsimp only at h1; omega))
  clear k3 x3 y3 z3 o4 b3 HQ K2 X2 Y2 Z2
  have c5 := (X3.out.2 5 _ rfl).1
  have HQ := hide (toIntS_gen (x.us) u5 B _ (h5.stays K3.out hB) (Nat.le_trans hB K3.out.size) (by omega))
  go_wp2_with fail
  refine HQ.out.mono ?_
  rintro e w4 ⟨⟨p5, rfl, o5⟩, b4⟩
  have k4 := K3.out.trans (b4.mono K3.out.size)
  have x4 := X3.out.next b4
  have y4 := Y3.out.next b4
  have z4 := Z3.out.next b4
  have P5 := hide (o5.up (l' := w3.heap.size) (u' := w4.heap.size) (by simp) (Nat.le_refl _))
  have P0 := hide (P0.out.next b4)
  have P1 := hide (P1.out.next b4)
  have P4 := hide (P4.out.next b4)
  have zs4 : w.heap.size + 1 + 1 < w4.heap.size := z4.1
  have n5 := hide (show w3.heap.size ≤ w4.heap.size by have := b4.size; simp at this; omega)
  obtain ⟨d5, f5⟩ := z4.2 5 _ rfl
  obtain ⟨r0, g0⟩ := y4.2 0 _ rfl
  obtain ⟨r1, g1⟩ := y4.2 1 _ rfl
  obtain ⟨r2, g2⟩ := y4.2 2 _ rfl
  obtain ⟨r3, g3⟩ := y4.2 3 _ rfl
  obtain ⟨r4, g4⟩ := y4.2 4 _ rfl
  obtain ⟨r5, g5⟩ := y4.2 5 _ rfl
  obtain ⟨d0, f0⟩ := z4.2 0 _ rfl
  obtain ⟨d1, f1⟩ := z4.2 1 _ rfl
  obtain ⟨d2, f2⟩ := z4.2 2 _ rfl
  obtain ⟨d3, f3⟩ := z4.2 3 _ rfl
  obtain ⟨d4, f4⟩ := z4.2 4 _ rfl
  have KE := hide k4
  clear k4 x4 y4 z4 o5 b4 HQ K3 X3 Y3 Z3
  go_wp2
  refine bodyPost_ret (v := .agg #[.slice (some ⟨p0, 0, none⟩) (x.t).length (x.t).length, .slice (some ⟨p1, 0, none⟩) (x.l).length (x.l).length, .int .i64 x.now, .int .i64 x.ver, .slice (some ⟨p4, 0, none⟩) (x.dr).length (x.dr).length, .slice (some ⟨p5, 0, none⟩) (x.us).length (x.us).length]) (by simp [results, Try.results13, go_sem, r0, r1, r2, r3, r4, r5]) rfl ⟨⟨p0, p1, p4, p5, w1.heap.size, w2.heap.size, w3.heap.size, w4.heap.size, rfl, ?_, n0.out, ?_, n1.out, ?_, n4.out, ?_, n5.out, ?_⟩, ?_⟩
  · refine Own.up (l := w.heap.size + 1 + 1 + 1) ?_ (by omega) (Nat.le_refl _)
    repeat' refine Own.setCell ?_ _ _ (fun e => by have h1 := e.1; dsimp only at h1; omega)
    exact P0.out
  · repeat' refine Own.setCell ?_ _ _ (fun e => by have h1 := e.1; dsimp only at h1; omega)
    exact P1.out
  · repeat' refine Own.setCell ?_ _ _ (fun e => by have h1 := e.1; dsimp only at h1; omega)
    exact P4.out
  · repeat' refine Own.setCell ?_ _ _ (fun e => by have h1 := e.1; dsimp only at h1; omega)
    exact P5.out
  · simp
  · repeat' refine Below.setCell ?_ (by simp; try omega) _
    exact KE.out
end Go.Proofs.Ytckhjemojopekaa
