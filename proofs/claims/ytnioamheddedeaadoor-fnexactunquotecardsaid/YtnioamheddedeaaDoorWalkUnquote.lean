/-
  The walk of the law FnExactUnquote: for every text it returns true, and turns nothing that was there.
-/
import Derived.Test.YtnioamheddedeaaDoorSpecUnq
import Derived.Test.YtnioamheddedeaaDoorUnq
namespace Go.Proofs.YtnioamheddedeaaDoor
open Go.RowKit M

set_option maxHeartbeats 400000 in
theorem FnExactUnquote_walk (s : ByteArray) (hs : s.size ≤ maxLen) (w : World) (_hL : laidMet Tryd.prog Rows.fnExactUnquoteRow.laid w) :
    Calls Tryd.prog 5 #[.string s] w fun e w' => e = .returned (.bool true) ∧ Below w.heap.size w w' := by
  clear _hL
  have hs' := hs
  unfold maxLen at hs'
  by_cases hb : (1048576 : Int) < s.size
  · go_enter Tryd.func5, Tryd.ntmps5
    go_wp2
    go_ret
    exact ⟨rfl, Below.refl _ _⟩
  · have hsp := fun W => specUnquote_any s W (by omega)
    have him := fun W => unquote_any s W (by omega)
    have HS : Hid (∀ W, _) := hsp
    have HI : Hid (∀ W, _) := him
    clear hsp him
    generalize unqR s.data.toList = r at *
    obtain ⟨x, b⟩ := r
    go_enter Tryd.func5, Tryd.ntmps5
    go_wp2_with (first | (go_at_call 20; refine (HS.out _).mono ?_; rintro e w1 ⟨rfl, hb1⟩) | (go_at_call 18; refine (HI.out _).mono ?_; rintro e w2 ⟨rfl, hb2⟩))
    go_ret
    exact ⟨rfl, hb1.trans (hb2.mono hb1.size)⟩
end Go.Proofs.YtnioamheddedeaaDoor
