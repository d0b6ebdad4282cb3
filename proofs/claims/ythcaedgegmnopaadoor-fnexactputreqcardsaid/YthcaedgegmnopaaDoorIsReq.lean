/-
  Requests as the row hands them in.
-/
import Derived.Test.YthcaedgegmnopaaDoorIsHeads
import Derived.Lib.SmallJoins
import Derived.OpenShut
namespace Go.Proofs.YthcaedgegmnopaaDoor
open Go.RowKit Go.ChangeShapes Go.WideShapes M
set_option linter.unusedVariables false

section
variable {H : Type} {enc : TypeId × Value → H} {w : World} {spare : Nat → Bool} {held : Bool}

set_option maxRecDepth 100000 in
theorem req_of_open {r : Reach} {b0 : Nat} {v : Value} {d : DataW H} {p : List MemPlace} (hv : Value.okWide Tryd.prog w r b0 38 v) (h : DataW.Trod enc Tryd.prog w 0 spare held 38 v d p) :
    ∃ (a : Option Addr) (q : Rq) (cap : Nat), v = .agg #[.string q.m, .string q.p, .slice a q.hs.length cap, .string q.b] ∧ Hds w w.heap.size a q.hs ∧ ShortR q := by
  obtain ⟨v0, v1, v2, v3, y0, y1, y2, y3, n, rfl, _, _, h0, h1, h2, h3⟩ := Joins.open_agg4 Tryd.underlying38 (by kernel_rfl) (by kernel_rfl) hv h
  have g0 : DataW.trod enc Tryd.prog w 0 spare held n 9 [v0] = some y0 := h0
  have g1 : DataW.trod enc Tryd.prog w 0 spare held n 9 [v1] = some y1 := h1
  have g2 : DataW.trod enc Tryd.prog w 0 spare held n 36 [v2] = some y2 := h2
  have g3 : DataW.trod enc Tryd.prog w 0 spare held n 9 [v3] = some y3 := h3
  obtain ⟨s0, e0, _, w0⟩ := DataW.trod_string Tryd.underlying9 g0
  obtain ⟨s1, e1, _, w1⟩ := DataW.trod_string Tryd.underlying9 g1
  obtain ⟨s3, e3, _, w3⟩ := DataW.trod_string Tryd.underlying9 g3
  obtain ⟨a, hs, cap, rfl, hh, hsh, hl⟩ := heads_of_open g2
  simp at e0 e1 e3
  subst e0 e1 e3
  exact ⟨a, ⟨s0, s1, hs, s3⟩, cap, rfl, hh, w0, w1, w3, hl, hsh⟩
end
end Go.Proofs.YthcaedgegmnopaaDoor
