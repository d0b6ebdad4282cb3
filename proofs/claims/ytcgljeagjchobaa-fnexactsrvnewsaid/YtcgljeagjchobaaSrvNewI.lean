/-
  What impl.SrvNew and spec.SrvNew do.
-/
import Derived.Test.YtcgljeagjchobaaSvIn
namespace Go.Proofs.Ytcgljeagjchobaa
open Go.RowKit M
set_option linter.unusedVariables false

def newSv : Sv := ⟨[], [], 0, 1, [], []⟩
set_option maxHeartbeats 1000000 in
theorem srvNew_any (w : World) :
    Calls Try.prog 6 #[] w fun e w' => e = .returned (.agg #[.slice none 0 0, .slice none 0 0, .int .i64 newSv.now, .int .i64 newSv.ver, .slice none 0 0, .slice none 0 0]) ∧ Below w.heap.size w w' := by
  go_enter Try.func6, Try.ntmps6
  go_wp2
  refine bodyPost_ret (v := .agg #[.slice none 0 0, .slice none 0 0, .int .i64 0, .int .i64 1, .slice none 0 0, .slice none 0 0]) (by simp [results, Try.results6, go_sem]) rfl ⟨rfl, ?_⟩
  repeat' refine Below.setCell ?_ (by simp; try omega) _
  exact (Below.refl _ _).alloc (Nat.le_refl _) _
set_option maxHeartbeats 1000000 in
theorem specSrvNew_any (w : World) :
    Calls Try.prog 5 #[] w fun e w' => e = .returned (.agg #[.slice none 0 0, .slice none 0 0, .int .i64 newSv.now, .int .i64 newSv.ver, .slice none 0 0, .slice none 0 0]) ∧ Below w.heap.size w w' := by
  go_enter Try.func5, Try.ntmps5
  go_wp2
  refine bodyPost_ret (v := .agg #[.slice none 0 0, .slice none 0 0, .int .i64 0, .int .i64 1, .slice none 0 0, .slice none 0 0]) (by simp [results, Try.results5, go_sem]) rfl ⟨rfl, ?_⟩
  repeat' refine Below.setCell ?_ (by simp; try omega) _
  exact (Below.refl _ _).alloc (Nat.le_refl _) _
end Go.Proofs.Ytcgljeagjchobaa
