/-
  What spec.l10Path draws of right things: as of any.
-/
import Derived.Test.YtifnolomekhmfaaGreatDrawPathM
namespace Go.Proofs.YtifnolomekhmfaaGreat
open Go.RowKit M
set_option linter.unusedVariables false

def PathO (w' : World) (B : Nat) (e : Ending) : Prop := PathOM 6 w' B e
theorem l10Path_any {w : World} {N : Nat} {a : Option Addr} {len cap : Nat} {zs : List Int} (h : DX w N a len cap zs) (g n c : Nat) (rs : List Rs) (hn : Hid (n = rs.length)) (ht : HasV w N g rs) (hl : n ≤ 1000) (hp : ∀ r ∈ rs, Few 5 r.pa) :
    Calls Tryz.prog 54 #[.pointer (some ⟨N, 0, none⟩), .slice (some ⟨g, 0, none⟩) n c] w fun e w' => PathO w' w.heap.size e ∧ DX w' N a len cap zs ∧ w.grownBy w' (some N) := l10PathM_any 5 (by decide) (by decide) h g n c rs hn ht hl hp
end Go.Proofs.YtifnolomekhmfaaGreat
