/-
  A help of the laws, by program (tools/gen_help.py): To1 of Lock.
-/
import Derived.Test.YtckhjemojopekaaRows
import Derived.Test.YtckhjemojopekaaMathSmall
import Derived.Test.YtckhjemojopekaaGenTo1Prop
import Derived.WalkKit
import Derived.WalkSpells
import Derived.WalkLawsBesides
import Derived.Deep.Light
import Derived.Deep.QuietTactic
import Derived.Deep.RegionHeld3
namespace Go.Proofs.Ytckhjemojopekaa
open Go.RowKit M
set_option linter.unusedVariables false

set_option maxRecDepth 100000 in
set_option maxHeartbeats 4000000 in
theorem toLock_gen (x : Lk) (u1 : Value) (B : Nat) (w : World) (h1 : View w B u1 (.l (x.pa.map dS))) (hB : B ≤ w.heap.size) (hsz : szR (dLk x) ≤ 1048576) :
    Calls Try.prog 57 #[.agg #[.int .i64 x.tk, u1, .bool x.de, .bool x.sh, .int .i64 x.un]] w fun e w' => (∃ (p1 n1 : Nat), e = .returned (.agg #[.int .i64 x.tk, .slice (some ⟨p1, 0, none⟩) (x.pa).length (x.pa).length, .bool x.de, .bool x.sh, .int .i64 x.un]) ∧ Own w' (.slice (some ⟨p1, 0, none⟩) (x.pa).length (x.pa).length) (.l (x.pa.map dS)) (IvG w.heap.size n1) ∧ w.heap.size ≤ n1 ∧ n1 ≤ w'.heap.size) ∧ Below w.heap.size w w' := by
  have hsum : szR (dLk x) = szRs (x.pa.map dS) := by simp [dLk, szR, szF, szV]
  rw [hsum] at hsz
  clear hsum
  have K0 := hide (show Below w.heap.size w (((w.alloc (Obj.cells #[.int .i64 x.tk, u1, .bool x.de, .bool x.sh, .int .i64 x.un] 95)).alloc (Obj.cells #[.int .i64 0, .slice none 0 0, .bool false, .bool false, .int .i64 0] 102)).alloc (Obj.cells #[.int .i64 x.tk, .slice none 0 0, .bool false, .bool false, .int .i64 0] 102)) from (((Below.refl _ _).alloc (Nat.le_refl _) _).alloc (by simp) _).alloc (by simp; omega) _)
  have X0 := hide (show BoxV (((w.alloc (Obj.cells #[.int .i64 x.tk, u1, .bool x.de, .bool x.sh, .int .i64 x.un] 95)).alloc (Obj.cells #[.int .i64 0, .slice none 0 0, .bool false, .bool false, .int .i64 0] 102)).alloc (Obj.cells #[.int .i64 x.tk, .slice none 0 0, .bool false, .bool false, .int .i64 0] 102)) w.heap.size [.int .i64 x.tk, u1, .bool x.de, .bool x.sh, .int .i64 x.un] from ((BoxV.made w [.int .i64 x.tk, u1, .bool x.de, .bool x.sh, .int .i64 x.un] 95).alloc _).alloc _)
  have Y0 := hide (show BoxV (((w.alloc (Obj.cells #[.int .i64 x.tk, u1, .bool x.de, .bool x.sh, .int .i64 x.un] 95)).alloc (Obj.cells #[.int .i64 0, .slice none 0 0, .bool false, .bool false, .int .i64 0] 102)).alloc (Obj.cells #[.int .i64 x.tk, .slice none 0 0, .bool false, .bool false, .int .i64 0] 102)) (w.heap.size + 1) [.int .i64 0, .slice none 0 0, .bool false, .bool false, .int .i64 0] by have h := (BoxV.made (w.alloc (Obj.cells #[.int .i64 x.tk, u1, .bool x.de, .bool x.sh, .int .i64 x.un] 95)) [.int .i64 0, .slice none 0 0, .bool false, .bool false, .int .i64 0] 102).alloc (Obj.cells #[.int .i64 x.tk, .slice none 0 0, .bool false, .bool false, .int .i64 0] 102); simpa using h)
  have Z0 := hide (show BoxV (((w.alloc (Obj.cells #[.int .i64 x.tk, u1, .bool x.de, .bool x.sh, .int .i64 x.un] 95)).alloc (Obj.cells #[.int .i64 0, .slice none 0 0, .bool false, .bool false, .int .i64 0] 102)).alloc (Obj.cells #[.int .i64 x.tk, .slice none 0 0, .bool false, .bool false, .int .i64 0] 102)) (w.heap.size + 1 + 1) [.int .i64 x.tk, .slice none 0 0, .bool false, .bool false, .int .i64 0] by have h := BoxV.made ((w.alloc (Obj.cells #[.int .i64 x.tk, u1, .bool x.de, .bool x.sh, .int .i64 x.un] 95)).alloc (Obj.cells #[.int .i64 0, .slice none 0 0, .bool false, .bool false, .int .i64 0] 102)) [.int .i64 x.tk, .slice none 0 0, .bool false, .bool false, .int .i64 0] 102; simpa using h)
  go_enter Try.func57, Try.ntmps57
  have HQ := hide (toStringS_gen (x.pa) u1 B _ (h1.stays K0.out hB) (Nat.le_trans hB K0.out.size) (by omega))
  go_wp2_with fail
  refine HQ.out.mono ?_
  rintro e w1 ⟨⟨p1, rfl, o1⟩, b1⟩
  have k1 := K0.out.trans (b1.mono K0.out.size)
  have x1 := X0.out.next b1
  have y1 := Y0.out.next b1
  have z1 := Z0.out.next b1
  have P1 := hide (o1.up (l' := w.heap.size + 1 + 1 + 1) (u' := w1.heap.size) (by simp) (Nat.le_refl _))
  have zs1 : w.heap.size + 1 + 1 < w1.heap.size := z1.1
  have zl1 : w.heap.size + 1 + 1 + 1 ≤ w1.heap.size := by omega
  have n1 := hide (show w.heap.size ≤ w1.heap.size by have := b1.size; simp at this; omega)
  obtain ⟨d1, f1⟩ := z1.2 1 _ rfl
  obtain ⟨d2, f2⟩ := z1.2 2 _ rfl
  have c2 := (x1.2 2 _ rfl).1
  obtain ⟨d3, f3⟩ := z1.2 3 _ rfl
  have c3 := (x1.2 3 _ rfl).1
  obtain ⟨d4, f4⟩ := z1.2 4 _ rfl
  have c4 := (x1.2 4 _ rfl).1
  obtain ⟨r0, g0⟩ := y1.2 0 _ rfl
  obtain ⟨r1, g1⟩ := y1.2 1 _ rfl
  obtain ⟨r2, g2⟩ := y1.2 2 _ rfl
  obtain ⟨r3, g3⟩ := y1.2 3 _ rfl
  obtain ⟨r4, g4⟩ := y1.2 4 _ rfl
  obtain ⟨d0, f0⟩ := z1.2 0 _ rfl
  have KE := hide k1
  clear k1 x1 y1 z1 o1 b1 HQ K0 X0 Y0 Z0
  go_wp2
  refine bodyPost_ret (v := .agg #[.int .i64 x.tk, .slice (some ⟨p1, 0, none⟩) (x.pa).length (x.pa).length, .bool x.de, .bool x.sh, .int .i64 x.un]) (by simp [results, Try.results57, go_sem, r0, r1, r2, r3, r4]) rfl ⟨⟨p1, w1.heap.size, rfl, ?_, n1.out, ?_⟩, ?_⟩
  · refine Own.up (l := w.heap.size + 1 + 1 + 1) ?_ (by omega) (Nat.le_refl _)
    repeat' refine Own.setCell ?_ _ _ (fun e => by have h1 := e.1; dsimp only at h1; omega)
    exact P1.out
  · simp
  · repeat' refine Below.setCell ?_ (by simp; try omega) _
    exact KE.out
end Go.Proofs.Ytckhjemojopekaa
