/-
  Answers as the row hands them in.
-/
import Derived.Test.YtnoijfnpchihoabIsHeads
import Derived.Test.YtnoijfnpchihoabBoxResp
import Derived.Lib.SmallJoins
import Derived.OpenShut
namespace Go.Proofs.Ytnoijfnpchihoab
open Go.RowKit Go.ChangeShapes Go.WideShapes M
set_option linter.unusedVariables false

section
variable {H : Type} {enc : TypeId × Value → H} {w : World} {spare : Nat → Bool} {held : Bool}

set_option maxRecDepth 100000 in
theorem resp_of_open {r : Reach} {b0 : Nat} {v : Value} {d : DataW H} {p : List MemPlace} (hv : Value.okWide Try.prog w r b0 24 v) (h : DataW.Trod enc Try.prog w 0 spare held 24 v d p) :
    ∃ (a : Option Addr) (q : Rs) (cap : Nat), v = .agg #[.int .i64 q.c, .slice a q.hs.length cap, .string q.b] ∧ Hds w w.heap.size a q.hs ∧ ShortA q := by
  obtain ⟨v0, v1, v2, y0, y1, y2, n, rfl, k0, _, h0, h1, h2⟩ := Joins.open_agg3 Try.underlying24 (by kernel_rfl) (by kernel_rfl) hv h
  have g0 : DataW.trod enc Try.prog w 0 spare held n 3 [v0] = some y0 := h0
  have g1 : DataW.trod enc Try.prog w 0 spare held n 22 [v1] = some y1 := h1
  have g2 : DataW.trod enc Try.prog w 0 spare held n 9 [v2] = some y2 := h2
  obtain ⟨s2, e2, _, w2⟩ := DataW.trod_string Try.underlying9 g2
  obtain ⟨a, hs, cap, rfl, hh, hsh, hl⟩ := heads_of_open g1
  obtain ⟨n0, e0, _, _⟩ := DataW.trod_int Try.underlying3 g0
  simp at e0 e2
  subst e0 e2
  exact ⟨a, ⟨n0, hs, s2⟩, cap, rfl, hh, w2, hl, hsh⟩
end
end Go.Proofs.Ytnoijfnpchihoab
