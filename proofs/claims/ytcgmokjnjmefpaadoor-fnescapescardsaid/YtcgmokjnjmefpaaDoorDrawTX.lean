/-
  A text is drawn, wherever the cursor stands.
-/
import Derived.Test.YtcgmokjnjmefpaaDoorDrawX
import Derived.Test.YtcgmokjnjmefpaaDoorDrawT
namespace Go.Proofs.YtcgmokjnjmefpaaDoor
open Go.RowKit M
set_option linter.unusedVariables false

theorem l1TextX {w : World} {N : Nat} {a : Option Addr} {len cap : Nat} {zs : List Int} (h : DX w N a len cap zs) :
    Calls Tryd.prog 11 #[.pointer (some ⟨N, 0, none⟩)] w fun e w' => (∃ s : ByteArray, e = .returned (.string s) ∧ s.size ≤ 100) ∧ DX w' N a len cap zs ∧ w.grownBy w' (some N) := by
  obtain ⟨c, h⟩ := h
  refine (l1Text_any h).mono ?_
  rintro e w1 ⟨rfl, hd, hg⟩
  exact ⟨⟨_, rfl, textV_le _ _ _⟩, ⟨_, hd⟩, hg⟩

end Go.Proofs.YtcgmokjnjmefpaaDoor
