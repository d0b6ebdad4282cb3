/-
  What spec.l1Text does.
-/
import Derived.Test.YtcgmokjnjmefpaaDoorDraw3
namespace Go.Proofs.YtcgmokjnjmefpaaDoor
open Go.RowKit M

set_option maxHeartbeats 400000 in
theorem l1Text_any {w : World} {N : Nat} {a : Option Addr} {len cap : Nat} {zs : List Int} {c : St} (h : DC w N a len cap zs c) :
    Calls Tryd.prog 11 #[.pointer (some ⟨N, 0, none⟩)] w fun e w' => e = .returned (.string (textV zs len c)) ∧ DC w' N a len cap zs (belowS len c 16) ∧ w.grownBy w' (some N) := by
  have H : Hid (DC w N a len cap zs c) := h
  clear h
  go_enter Tryd.func11, Tryd.ntmps11
  go_wp2_with fail
  refine (strNew H.out textL _ _ 16 _ rfl rfl rfl (by decide) (by decide)).mono ?_
  rintro e w1 ⟨rfl, hd1, hg1⟩
  go_wp2
  go_ret
  exact ⟨rfl, hd1, hg1⟩
end Go.Proofs.YtcgmokjnjmefpaaDoor
