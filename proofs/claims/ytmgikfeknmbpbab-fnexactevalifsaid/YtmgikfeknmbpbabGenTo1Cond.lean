/-
  A help of the laws, by program (tools/gen_help.py): To1 of Cond.
-/
import Derived.Test.YtmgikfeknmbpbabRows
import Derived.Test.YtmgikfeknmbpbabGenLeaf
import Derived.Test.YtmgikfeknmbpbabGenBox
import Derived.Test.YtmgikfeknmbpbabGenCond
import Derived.WalkKit
import Derived.WalkSpells
import Derived.WalkLawsBesides
import Derived.Deep.Light
import Derived.Deep.QuietTactic
import Derived.Deep.RegionHeld3
namespace Go.Proofs.Ytmgikfeknmbpbab
open Go.RowKit M
set_option linter.unusedVariables false

set_option maxRecDepth 100000 in
set_option maxHeartbeats 4000000 in
theorem toCond_gen (x : Cn) (B : Nat) (w : World) (hB : B ≤ w.heap.size) (hsz : szR (dCn x) ≤ 1048576) :
    Calls Try.prog 26 #[.agg #[.bool x.no, .int .i64 x.tk, .string x.tg]] w fun e w' => e = .returned (.agg #[.bool x.no, .int .i64 x.tk, .string x.tg]) ∧ Below w.heap.size w w' := by
  go_enter Try.func26, Try.ntmps26
  go_wp2
  refine bodyPost_ret (v := .agg #[.bool x.no, .int .i64 x.tk, .string x.tg]) (by simp [results, Try.results26, go_sem]) rfl ⟨rfl, ?_⟩
  repeat' refine Below.setCell ?_ (by simp; try omega) _
  exact (((Below.refl _ _).alloc (Nat.le_refl _) _).alloc (by simp) _).alloc (by simp; omega) _
end Go.Proofs.Ytmgikfeknmbpbab
