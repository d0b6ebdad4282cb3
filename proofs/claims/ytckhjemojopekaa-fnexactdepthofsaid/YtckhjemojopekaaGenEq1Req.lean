/-
  A help of the laws, by program (tools/gen_help.py): Eq1 of Req.
-/
import Derived.Test.YtckhjemojopekaaRows
import Derived.Test.YtckhjemojopekaaGenLeaf
import Derived.Test.YtckhjemojopekaaGenBox
import Derived.Test.YtckhjemojopekaaGenReq
import Derived.Test.YtckhjemojopekaaGenEqqHeadS
import Derived.WalkKit
import Derived.WalkSpells
import Derived.WalkLawsBesides
import Derived.Deep.Light
import Derived.Deep.QuietTactic
import Derived.Deep.RegionHeld3
namespace Go.Proofs.Ytckhjemojopekaa
open Go.RowKit M
set_option linter.unusedVariables false

set_option maxRecDepth 100000 in
set_option maxHeartbeats 4000000 in
theorem eqReq_gen (x : Rq) (u2 t2 : Value) (B C : Nat) (w : World) (h2 : View w B u2 (.l (x.hs.map dHd))) (j2 : View w C t2 (.l (x.hs.map dHd))) (hB : B ≤ w.heap.size) (hC : C ≤ w.heap.size) :
    Calls Try.prog 9 #[.agg #[.string x.m, .string x.p, u2, .string x.b], .agg #[.string x.m, .string x.p, t2, .string x.b]] w fun e w' => e = .returned (.bool true) ∧ Below w.heap.size w w' := by
  have K0 := hide (show Below w.heap.size w ((w.alloc (Obj.cells #[.string x.m, .string x.p, u2, .string x.b] 29)).alloc (Obj.cells #[.string x.m, .string x.p, t2, .string x.b] 29)) from ((Below.refl _ _).alloc (Nat.le_refl _) _).alloc (by simp) _)
  have X0 := hide (show BoxV ((w.alloc (Obj.cells #[.string x.m, .string x.p, u2, .string x.b] 29)).alloc (Obj.cells #[.string x.m, .string x.p, t2, .string x.b] 29)) w.heap.size [.string x.m, .string x.p, u2, .string x.b] from (BoxV.made w [.string x.m, .string x.p, u2, .string x.b] 29).alloc _)
  have Y0 := hide (show BoxV ((w.alloc (Obj.cells #[.string x.m, .string x.p, u2, .string x.b] 29)).alloc (Obj.cells #[.string x.m, .string x.p, t2, .string x.b] 29)) (w.heap.size + 1) [.string x.m, .string x.p, t2, .string x.b] by have h := BoxV.made (w.alloc (Obj.cells #[.string x.m, .string x.p, u2, .string x.b] 29)) [.string x.m, .string x.p, t2, .string x.b] 29; simpa using h)
  go_enter Try.func9, Try.ntmps9
  have HQ := hide (eqHeadS_gen (x.hs) u2 t2 B C _ (h2.stays K0.out hB) (j2.stays K0.out hC) (Nat.le_trans hB K0.out.size) (Nat.le_trans hC K0.out.size))
  go_wp2_with fail
  refine HQ.out.mono ?_
  rintro e w1 ⟨rfl, b1⟩
  have K1 := hide (K0.out.trans (b1.mono K0.out.size))
  have X1 := hide (X0.out.next b1)
  have Y1 := hide (Y0.out.next b1)
  clear HQ b1 K0 X0 Y0
  have c3 := (X1.out.2 3 _ rfl).1
  have d3 := (Y1.out.2 3 _ rfl).1
  go_wp2
  go_ret
  exact ⟨rfl, K1.out⟩
end Go.Proofs.Ytckhjemojopekaa
