/-
  A help of the laws, by program (tools/gen_help.py): To1 of Res.
-/
import Derived.Test.YtckhjemojopekaaRows
import Derived.Test.YtckhjemojopekaaMathSmall
import Derived.Test.YtckhjemojopekaaGenAsk
import Derived.Test.YtckhjemojopekaaGenTo1Prop
import Derived.Test.YtckhjemojopekaaGenTooPropS
import Derived.WalkKit
import Derived.WalkSpells
import Derived.WalkLawsBesides
import Derived.Deep.Light
import Derived.Deep.QuietTactic
import Derived.Deep.RegionHeld3
namespace Go.Proofs.Ytckhjemojopekaa
open Go.RowKit M
set_option linter.unusedVariables false

set_option maxRecDepth 100000 in
set_option maxHeartbeats 4000000 in
theorem toRes_gen (x : Rs) (u0 u4 : Value) (B : Nat) (w : World) (h0 : View w B u0 (.l (x.pa.map dS))) (h4 : View w B u4 (.l (x.ps.map dPp))) (hB : B ≤ w.heap.size) (hsz : szR (dRs x) ≤ 1048576) :
    Calls Try.prog 56 #[.agg #[u0, .bool x.co, .string x.bo, .int .i64 x.ve, u4]] w fun e w' => (∃ (p0 p4 n0 n4 : Nat), e = .returned (.agg #[.slice (some ⟨p0, 0, none⟩) (x.pa).length (x.pa).length, .bool x.co, .string x.bo, .int .i64 x.ve, .slice (some ⟨p4, 0, none⟩) (x.ps).length (x.ps).length]) ∧ Own w' (.slice (some ⟨p0, 0, none⟩) (x.pa).length (x.pa).length) (.l (x.pa.map dS)) (IvG w.heap.size n0) ∧ w.heap.size ≤ n0 ∧ Own w' (.slice (some ⟨p4, 0, none⟩) (x.ps).length (x.ps).length) (.l (x.ps.map dPp)) (IvG n0 n4) ∧ n0 ≤ n4 ∧ n4 ≤ w'.heap.size) ∧ Below w.heap.size w w' := by
  have hsum : szR (dRs x) = szRs (x.pa.map dS) + (x.bo).size + szRs (x.ps.map dPp) := by simp [dRs, szR, szF, szV]; try omega
  rw [hsum] at hsz
  clear hsum
  have K0 := hide (show Below w.heap.size w (((w.alloc (Obj.cells #[u0, .bool x.co, .string x.bo, .int .i64 x.ve, u4] 92)).alloc (Obj.cells #[.slice none 0 0, .bool false, .string { data := #[] }, .int .i64 0, .slice none 0 0] 100)).alloc (Obj.cells #[.slice none 0 0, .bool false, .string { data := #[] }, .int .i64 0, .slice none 0 0] 100)) from (((Below.refl _ _).alloc (Nat.le_refl _) _).alloc (by simp) _).alloc (by simp; omega) _)
  have X0 := hide (show BoxV (((w.alloc (Obj.cells #[u0, .bool x.co, .string x.bo, .int .i64 x.ve, u4] 92)).alloc (Obj.cells #[.slice none 0 0, .bool false, .string { data := #[] }, .int .i64 0, .slice none 0 0] 100)).alloc (Obj.cells #[.slice none 0 0, .bool false, .string { data := #[] }, .int .i64 0, .slice none 0 0] 100)) w.heap.size [u0, .bool x.co, .string x.bo, .int .i64 x.ve, u4] from ((BoxV.made w [u0, .bool x.co, .string x.bo, .int .i64 x.ve, u4] 92).alloc _).alloc _)
  have Y0 := hide (show BoxV (((w.alloc (Obj.cells #[u0, .bool x.co, .string x.bo, .int .i64 x.ve, u4] 92)).alloc (Obj.cells #[.slice none 0 0, .bool false, .string { data := #[] }, .int .i64 0, .slice none 0 0] 100)).alloc (Obj.cells #[.slice none 0 0, .bool false, .string { data := #[] }, .int .i64 0, .slice none 0 0] 100)) (w.heap.size + 1) [.slice none 0 0, .bool false, .string { data := #[] }, .int .i64 0, .slice none 0 0] by have h := (BoxV.made (w.alloc (Obj.cells #[u0, .bool x.co, .string x.bo, .int .i64 x.ve, u4] 92)) [.slice none 0 0, .bool false, .string { data := #[] }, .int .i64 0, .slice none 0 0] 100).alloc (Obj.cells #[.slice none 0 0, .bool false, .string { data := #[] }, .int .i64 0, .slice none 0 0] 100); simpa using h)
  have Z0 := hide (show BoxV (((w.alloc (Obj.cells #[u0, .bool x.co, .string x.bo, .int .i64 x.ve, u4] 92)).alloc (Obj.cells #[.slice none 0 0, .bool false, .string { data := #[] }, .int .i64 0, .slice none 0 0] 100)).alloc (Obj.cells #[.slice none 0 0, .bool false, .string { data := #[] }, .int .i64 0, .slice none 0 0] 100)) (w.heap.size + 1 + 1) [.slice none 0 0, .bool false, .string { data := #[] }, .int .i64 0, .slice none 0 0] by have h := BoxV.made ((w.alloc (Obj.cells #[u0, .bool x.co, .string x.bo, .int .i64 x.ve, u4] 92)).alloc (Obj.cells #[.slice none 0 0, .bool false, .string { data := #[] }, .int .i64 0, .slice none 0 0] 100)) [.slice none 0 0, .bool false, .string { data := #[] }, .int .i64 0, .slice none 0 0] 100; simpa using h)
  go_enter Try.func56, Try.ntmps56
  have HQ := hide (toStringS_gen (x.pa) u0 B _ (h0.stays K0.out hB) (Nat.le_trans hB K0.out.size) (by omega))
  go_wp2_with fail
  refine HQ.out.mono ?_
  rintro e w1 ⟨⟨p0, rfl, o0⟩, b1⟩
  have k1 := K0.out.trans (b1.mono K0.out.size)
  have x1 := X0.out.next b1
  have y1 := Y0.out.next b1
  have z1 := Z0.out.next b1
  have P0 := hide (o0.up (l' := w.heap.size + 1 + 1 + 1) (u' := w1.heap.size) (by simp) (Nat.le_refl _))
  have zs1 : w.heap.size + 1 + 1 < w1.heap.size := z1.1
  have zl1 : w.heap.size + 1 + 1 + 1 ≤ w1.heap.size := by omega
  have n0 := hide (show w.heap.size ≤ w1.heap.size by have := b1.size; simp at this; omega)
  obtain ⟨d0, f0⟩ := z1.2 0 _ rfl
  obtain ⟨d1, f1⟩ := z1.2 1 _ rfl
  have c1 := (x1.2 1 _ rfl).1
  obtain ⟨d2, f2⟩ := z1.2 2 _ rfl
  have c2 := (x1.2 2 _ rfl).1
  obtain ⟨d3, f3⟩ := z1.2 3 _ rfl
  have c3 := (x1.2 3 _ rfl).1
  have K1 := hide ((((k1.setCell (p := ⟨w.heap.size + 1 + 1, 0, none⟩) (by show w.heap.size ≤ w.heap.size + 1 + 1; omega) (.slice (some ⟨p0, 0, none⟩) (x.pa).length (x.pa).length)).setCell (p := ⟨w.heap.size + 1 + 1, 1, none⟩) (by show w.heap.size ≤ w.heap.size + 1 + 1; omega) (.bool x.co)).setCell (p := ⟨w.heap.size + 1 + 1, 2, none⟩) (by show w.heap.size ≤ w.heap.size + 1 + 1; omega) (.string x.bo)).setCell (p := ⟨w.heap.size + 1 + 1, 3, none⟩) (by show w.heap.size ≤ w.heap.size + 1 + 1; omega) (.int .i64 x.ve))
  have X1 := hide ((((x1.other ⟨w.heap.size + 1 + 1, 0, none⟩ (.slice (some ⟨p0, 0, none⟩) (x.pa).length (x.pa).length) (by show w.heap.size + 1 + 1 ≠ w.heap.size; omega)).other ⟨w.heap.size + 1 + 1, 1, none⟩ (.bool x.co) (by show w.heap.size + 1 + 1 ≠ w.heap.size; omega)).other ⟨w.heap.size + 1 + 1, 2, none⟩ (.string x.bo) (by show w.heap.size + 1 + 1 ≠ w.heap.size; omega)).other ⟨w.heap.size + 1 + 1, 3, none⟩ (.int .i64 x.ve) (by show w.heap.size + 1 + 1 ≠ w.heap.size; omega))
  have Y1 := hide ((((y1.other ⟨w.heap.size + 1 + 1, 0, none⟩ (.slice (some ⟨p0, 0, none⟩) (x.pa).length (x.pa).length) (by show w.heap.size + 1 + 1 ≠ w.heap.size + 1; omega)).other ⟨w.heap.size + 1 + 1, 1, none⟩ (.bool x.co) (by show w.heap.size + 1 + 1 ≠ w.heap.size + 1; omega)).other ⟨w.heap.size + 1 + 1, 2, none⟩ (.string x.bo) (by show w.heap.size + 1 + 1 ≠ w.heap.size + 1; omega)).other ⟨w.heap.size + 1 + 1, 3, none⟩ (.int .i64 x.ve) (by show w.heap.size + 1 + 1 ≠ w.heap.size + 1; omega))
  have Z1 := hide (show BoxV ((((w1.setCell ⟨w.heap.size + 1 + 1, 0, none⟩ (.slice (some ⟨p0, 0, none⟩) (x.pa).length (x.pa).length)).setCell ⟨w.heap.size + 1 + 1, 1, none⟩ (.bool x.co)).setCell ⟨w.heap.size + 1 + 1, 2, none⟩ (.string x.bo)).setCell ⟨w.heap.size + 1 + 1, 3, none⟩ (.int .i64 x.ve)) (w.heap.size + 1 + 1) [.slice (some ⟨p0, 0, none⟩) (x.pa).length (x.pa).length, .bool x.co, .string x.bo, .int .i64 x.ve, .slice none 0 0] from ((((z1.set 0 (by simp) (.slice (some ⟨p0, 0, none⟩) (x.pa).length (x.pa).length)).set 1 (by simp) (.bool x.co)).set 2 (by simp) (.string x.bo)).set 3 (by simp) (.int .i64 x.ve)))
  have P0 := hide ((((P0.out.setCell ⟨w.heap.size + 1 + 1, 0, none⟩ (.slice (some ⟨p0, 0, none⟩) (x.pa).length (x.pa).length) (fun e => by have h1 := e.1; dsimp only at h1; omega)).setCell ⟨w.heap.size + 1 + 1, 1, none⟩ (.bool x.co) (fun e => by have h1 := e.1; dsimp only at h1; omega)).setCell ⟨w.heap.size + 1 + 1, 2, none⟩ (.string x.bo) (fun e => by have h1 := e.1; dsimp only at h1; omega)).setCell ⟨w.heap.size + 1 + 1, 3, none⟩ (.int .i64 x.ve) (fun e => by have h1 := e.1; dsimp only at h1; omega))
  clear k1 x1 y1 z1 o0 b1 HQ K0 X0 Y0 Z0
  have c4 := (X1.out.2 4 _ rfl).1
  have HQ := hide (toPropS_gen (x.ps) u4 B _ (h4.stays K1.out hB) (Nat.le_trans hB K1.out.size) (by omega))
  go_wp2_with fail
  refine HQ.out.mono ?_
  rintro e w2 ⟨⟨p4, rfl, o4⟩, b2⟩
  have k2 := K1.out.trans (b2.mono K1.out.size)
  have x2 := X1.out.next b2
  have y2 := Y1.out.next b2
  have z2 := Z1.out.next b2
  have P4 := hide (o4.up (l' := w1.heap.size) (u' := w2.heap.size) (by simp) (Nat.le_refl _))
  have P0 := hide (P0.out.next b2)
  have zs2 : w.heap.size + 1 + 1 < w2.heap.size := z2.1
  have n4 := hide (show w1.heap.size ≤ w2.heap.size by have := b2.size; simp at this; omega)
  obtain ⟨d4, f4⟩ := z2.2 4 _ rfl
  obtain ⟨r0, g0⟩ := y2.2 0 _ rfl
  obtain ⟨r1, g1⟩ := y2.2 1 _ rfl
  obtain ⟨r2, g2⟩ := y2.2 2 _ rfl
  obtain ⟨r3, g3⟩ := y2.2 3 _ rfl
  obtain ⟨r4, g4⟩ := y2.2 4 _ rfl
  obtain ⟨d0, f0⟩ := z2.2 0 _ rfl
  obtain ⟨d1, f1⟩ := z2.2 1 _ rfl
  obtain ⟨d2, f2⟩ := z2.2 2 _ rfl
  obtain ⟨d3, f3⟩ := z2.2 3 _ rfl
  have KE := hide k2
  clear k2 x2 y2 z2 o4 b2 HQ K1 X1 Y1 Z1
  go_wp2
  refine bodyPost_ret (v := .agg #[.slice (some ⟨p0, 0, none⟩) (x.pa).length (x.pa).length, .bool x.co, .string x.bo, .int .i64 x.ve, .slice (some ⟨p4, 0, none⟩) (x.ps).length (x.ps).length]) (by simp [results, Try.results56, go_sem, r0, r1, r2, r3, r4]) rfl ⟨⟨p0, p4, w1.heap.size, w2.heap.size, rfl, ?_, n0.out, ?_, n4.out, ?_⟩, ?_⟩
  · refine Own.up (l := w.heap.size + 1 + 1 + 1) ?_ (by omega) (Nat.le_refl _)
    repeat' refine Own.setCell ?_ _ _ (fun e => by have h1 := e.1; dsimp only at h1; omega)
    exact P0.out
  · repeat' refine Own.setCell ?_ _ _ (fun e => by have h1 := e.1; dsimp only at h1; omega)
    exact P4.out
  · simp
  · repeat' refine Below.setCell ?_ (by simp; try omega) _
    exact KE.out
end Go.Proofs.Ytckhjemojopekaa
