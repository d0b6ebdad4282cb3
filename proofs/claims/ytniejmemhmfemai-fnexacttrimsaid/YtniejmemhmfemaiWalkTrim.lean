/-
  The walk of the law FnExactTrim: for every text it returns true, and turns nothing that was there.
-/
import Derived.Test.YtniejmemhmfemaiSpecTrim
import Derived.Test.YtniejmemhmfemaiTrim
namespace Go.Proofs.Ytniejmemhmfemai
open Go.RowKit M

theorem bytes_ext {s t : ByteArray} (h : s.data.toList = t.data.toList) : s = t := by
  apply ByteArray.ext
  exact Array.toList_inj.1 h

set_option maxHeartbeats 400000 in
theorem FnExactTrim_walk (s : ByteArray) (hs : s.size ≤ maxLen) (w : World) :
    Calls Try.prog 4 #[.string s] w fun e w' => e = .returned (.bool true) ∧ Below w.heap.size w w' := by
  have hs' := hs
  unfold maxLen at hs'
  by_cases hb : (1048576 : Int) < s.size
  · go_enter Try.func4, Try.ntmps4
    go_wp2
    go_ret
    exact ⟨rfl, Below.refl _ _⟩
  · go_enter Try.func4, Try.ntmps4
    go_wp2_with (first | (go_at_call 7; refine (specTrim_any s _ hs).mono ?_; rintro e w' ⟨⟨t, rfl, ht⟩, rfl⟩; have HT : Hid (t.data.toList = trimL s.data.toList) := ht; clear ht))
    refine (trim_any s _ (by omega)).mono ?_
    rintro e w1 ⟨⟨u, rfl, hu⟩, hb1⟩
    obtain rfl : t = u := bytes_ext (HT.out.trans hu.symm)
    clear hu
    go_wp2
    go_ret
    exact ⟨rfl, hb1⟩
end Go.Proofs.Ytniejmemhmfemai
