/-
  The walk of the law FnExactNoneOk.
-/
import Derived.Test.YtccehdlgpbeijabNoneOk
namespace Go.Proofs.Ytccehdlgpbeijab
open Go.RowKit M
set_option linter.unusedVariables false

set_option maxHeartbeats 1000000 in
theorem FnExactNoneOk_walk (s : ByteArray) (hs : s.size ≤ maxLen) (q : Bool) (t : ByteArray) (ht : t.size ≤ maxLen) (w : World) :
    Calls Try.prog 3 #[.string s, .bool q, .string t] w fun e w' => e = .returned (.bool true) ∧ Below w.heap.size w w' := by
  unfold maxLen at hs ht
  by_cases hb : (1048576 : Int) < s.size
  · go_enter Try.func3, Try.ntmps3
    go_wp2
    go_ret
    exact ⟨rfl, Below.refl _ _⟩
  · by_cases hb2 : (1048576 : Int) < t.size
    · go_enter Try.func3, Try.ntmps3
      go_wp2
      go_ret
      exact ⟨rfl, Below.refl _ _⟩
    · have HS := hide (fun W => specNoneOk_any s t q W (by omega))
      have HI := hide (fun W => noneOk_any s t q W (by omega))
      obtain ⟨r, hr⟩ : ∃ r, (!q || !namB s.data.toList t) = r := ⟨_, rfl⟩
      rw [hr] at HS HI
      clear hr
      go_enter Try.func3, Try.ntmps3
      go_wp2_with fail
      refine (HS.out w).mono ?_
      rintro e w1 ⟨rfl, b1⟩
      go_wp2_with fail
      refine (HI.out w1).mono ?_
      rintro e w2 ⟨rfl, b2⟩
      go_wp2
      go_ret
      exact ⟨rfl, b1.trans (b2.mono b1.size)⟩
end Go.Proofs.Ytccehdlgpbeijab
