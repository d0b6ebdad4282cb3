/-
  A help of the laws, by program (tools/gen_help.py): To1 of Req.
-/
import Derived.Test.YtckhjemojopekaaRows
import Derived.Test.YtckhjemojopekaaGenLeaf
import Derived.Test.YtckhjemojopekaaGenBox
import Derived.Test.YtckhjemojopekaaGenReq
import Derived.Test.YtckhjemojopekaaGenTooHeadS
import Derived.WalkKit
import Derived.WalkSpells
import Derived.WalkLawsBesides
import Derived.Deep.Light
import Derived.Deep.QuietTactic
import Derived.Deep.RegionHeld3
namespace Go.Proofs.Ytckhjemojopekaa
open Go.RowKit M
set_option linter.unusedVariables false

set_option maxRecDepth 100000 in
set_option maxHeartbeats 4000000 in
theorem toReq_gen (x : Rq) (u2 : Value) (B : Nat) (w : World) (h2 : View w B u2 (.l (x.hs.map dHd))) (hB : B ≤ w.heap.size) (hsz : szR (dRq x) ≤ 1048576) :
    Calls Try.prog 7 #[.agg #[.string x.m, .string x.p, u2, .string x.b]] w fun e w' => (∃ (p2 n2 : Nat), e = .returned (.agg #[.string x.m, .string x.p, .slice (some ⟨p2, 0, none⟩) (x.hs).length (x.hs).length, .string x.b]) ∧ Own w' (.slice (some ⟨p2, 0, none⟩) (x.hs).length (x.hs).length) (.l (x.hs.map dHd)) (IvG w.heap.size n2) ∧ w.heap.size ≤ n2 ∧ n2 ≤ w'.heap.size) ∧ Below w.heap.size w w' := by
  have hsum : szR (dRq x) = (x.m).size + (x.p).size + szRs (x.hs.map dHd) + (x.b).size := by simp [dRq, szR, szF, szV]; try omega
  rw [hsum] at hsz
  clear hsum
  have K0 := hide (show Below w.heap.size w (((w.alloc (Obj.cells #[.string x.m, .string x.p, u2, .string x.b] 24)).alloc (Obj.cells #[.string { data := #[] }, .string { data := #[] }, .slice none 0 0, .string { data := #[] }] 29)).alloc (Obj.cells #[.string x.m, .string x.p, .slice none 0 0, .string { data := #[] }] 29)) from (((Below.refl _ _).alloc (Nat.le_refl _) _).alloc (by simp) _).alloc (by simp; omega) _)
  have X0 := hide (show BoxV (((w.alloc (Obj.cells #[.string x.m, .string x.p, u2, .string x.b] 24)).alloc (Obj.cells #[.string { data := #[] }, .string { data := #[] }, .slice none 0 0, .string { data := #[] }] 29)).alloc (Obj.cells #[.string x.m, .string x.p, .slice none 0 0, .string { data := #[] }] 29)) w.heap.size [.string x.m, .string x.p, u2, .string x.b] from ((BoxV.made w [.string x.m, .string x.p, u2, .string x.b] 24).alloc _).alloc _)
  have Y0 := hide (show BoxV (((w.alloc (Obj.cells #[.string x.m, .string x.p, u2, .string x.b] 24)).alloc (Obj.cells #[.string { data := #[] }, .string { data := #[] }, .slice none 0 0, .string { data := #[] }] 29)).alloc (Obj.cells #[.string x.m, .string x.p, .slice none 0 0, .string { data := #[] }] 29)) (w.heap.size + 1) [.string { data := #[] }, .string { data := #[] }, .slice none 0 0, .string { data := #[] }] by have h := (BoxV.made (w.alloc (Obj.cells #[.string x.m, .string x.p, u2, .string x.b] 24)) [.string { data := #[] }, .string { data := #[] }, .slice none 0 0, .string { data := #[] }] 29).alloc (Obj.cells #[.string x.m, .string x.p, .slice none 0 0, .string { data := #[] }] 29); simpa using h)
  have Z0 := hide (show BoxV (((w.alloc (Obj.cells #[.string x.m, .string x.p, u2, .string x.b] 24)).alloc (Obj.cells #[.string { data := #[] }, .string { data := #[] }, .slice none 0 0, .string { data := #[] }] 29)).alloc (Obj.cells #[.string x.m, .string x.p, .slice none 0 0, .string { data := #[] }] 29)) (w.heap.size + 1 + 1) [.string x.m, .string x.p, .slice none 0 0, .string { data := #[] }] by have h := BoxV.made ((w.alloc (Obj.cells #[.string x.m, .string x.p, u2, .string x.b] 24)).alloc (Obj.cells #[.string { data := #[] }, .string { data := #[] }, .slice none 0 0, .string { data := #[] }] 29)) [.string x.m, .string x.p, .slice none 0 0, .string { data := #[] }] 29; simpa using h)
  go_enter Try.func7, Try.ntmps7
  have HQ := hide (toHeadS_gen (x.hs) u2 B _ (h2.stays K0.out hB) (Nat.le_trans hB K0.out.size) (by omega))
  go_wp2_with fail
  refine HQ.out.mono ?_
  rintro e w1 ⟨⟨p2, rfl, o2⟩, b1⟩
  have k1 := K0.out.trans (b1.mono K0.out.size)
  have x1 := X0.out.next b1
  have y1 := Y0.out.next b1
  have z1 := Z0.out.next b1
  have P2 := hide (o2.up (l' := w.heap.size + 1 + 1 + 1) (u' := w1.heap.size) (by simp) (Nat.le_refl _))
  have zs1 : w.heap.size + 1 + 1 < w1.heap.size := z1.1
  have zl1 : w.heap.size + 1 + 1 + 1 ≤ w1.heap.size := by omega
  have n2 := hide (show w.heap.size ≤ w1.heap.size by have := b1.size; simp at this; omega)
  obtain ⟨d2, f2⟩ := z1.2 2 _ rfl
  obtain ⟨d3, f3⟩ := z1.2 3 _ rfl
  have c3 := (x1.2 3 _ rfl).1
  obtain ⟨r0, g0⟩ := y1.2 0 _ rfl
  obtain ⟨r1, g1⟩ := y1.2 1 _ rfl
  obtain ⟨r2, g2⟩ := y1.2 2 _ rfl
  obtain ⟨r3, g3⟩ := y1.2 3 _ rfl
  obtain ⟨d0, f0⟩ := z1.2 0 _ rfl
  obtain ⟨d1, f1⟩ := z1.2 1 _ rfl
  have KE := hide k1
  clear k1 x1 y1 z1 o2 b1 HQ K0 X0 Y0 Z0
  go_wp2
  refine bodyPost_ret (v := .agg #[.string x.m, .string x.p, .slice (some ⟨p2, 0, none⟩) (x.hs).length (x.hs).length, .string x.b]) (by simp [results, Try.results7, go_sem, r0, r1, r2, r3]) rfl ⟨⟨p2, w1.heap.size, rfl, ?_, n2.out, ?_⟩, ?_⟩
  · refine Own.up (l := w.heap.size + 1 + 1 + 1) ?_ (by omega) (Nat.le_refl _)
    repeat' refine Own.setCell ?_ _ _ (fun e => by have h1 := e.1; dsimp only at h1; omega)
    exact P2.out
  · simp
  · repeat' refine Below.setCell ?_ (by simp; try omega) _
    exact KE.out
end Go.Proofs.Ytckhjemojopekaa
