/-
  A help of the laws, by program (tools/gen_help.py): Op1 of Req.
-/
import Derived.Test.YtckhjemojopekaaRows
import Derived.Test.YtckhjemojopekaaGenLeaf
import Derived.Test.YtckhjemojopekaaGenBox
import Derived.Test.YtckhjemojopekaaGenPick
import Derived.Test.YtckhjemojopekaaGenReq
import Derived.Test.YtckhjemojopekaaGenOpnHeadS
import Derived.WalkKit
import Derived.WalkSpells
import Derived.WalkLawsBesides
import Derived.Deep.Light
import Derived.Deep.QuietTactic
import Derived.Deep.RegionHeld3
import Derived.Lib.SmallJoins
import Derived.Deep.Slices
import Derived.OpenShut
import Derived.SliceStrings
namespace Go.Proofs.Ytckhjemojopekaa
open Go.RowKit Go.ChangeShapes Go.WideShapes Go.Deep M
set_option linter.unusedVariables false

section
variable {H : Type} {enc : TypeId × Value → H} {w : World} {spare : Nat → Bool} {held : Bool}
set_option maxRecDepth 100000 in
theorem openReq_gen {r : Reach} {b0 : Nat} {v : Value} {d : DataW H} {p : List MemPlace} (hv : Value.okWide Try.prog w r b0 24 v) (h : DataW.Trod enc Try.prog w 0 spare held 24 v d p) :
    ∃ (x : Rq) (u2 : Value), v = .agg #[.string x.m, .string x.p, u2, .string x.b] ∧ View w w.heap.size u2 (.l (x.hs.map dHd)) ∧ okR (dRq x) := by
  obtain ⟨cs, rfl, hsz⟩ := okWide_struct Try.underlying24 hv
  have hsz2 : cs.size = 4 := hsz.trans (by kernel_rfl)
  obtain ⟨l⟩ := cs
  match l, hsz2 with
  | [v0, v1, v2, v3], _ =>
    obtain ⟨fuel, hf0⟩ := h
    obtain ⟨xs, n, _, _, hl, hxl, hf⟩ := DataW.trod_struct Try.underlying24 hf0
    match xs, hxl with
    | [y0, y1, y2, y3], _ =>

      have g0 := hf 0 _ rfl
      have g1 := hf 1 _ rfl
      have g2 := hf 2 _ rfl
      have g3 := hf 3 _ rfl
      have k0 : Try.prog.cellsOf 9 = 1 := by kernel_rfl
      have k1 : Try.prog.cellsOf 22 = 1 := by kernel_rfl
      simp [Value.cells, k0, k1] at g0 g1 g2 g3
      obtain ⟨z0, e0, _, s0⟩ := DataW.trod_string Try.underlying9 g0
      obtain ⟨z1, e1, _, s1⟩ := DataW.trod_string Try.underlying9 g1
      obtain ⟨z2, V2, O2⟩ := openHeadS_gen g2
      obtain ⟨z3, e3, _, s3⟩ := DataW.trod_string Try.underlying9 g3
      simp only [List.cons.injEq, and_true] at e0 e1 e3
      subst e0 e1 e3
      refine ⟨⟨z0, z1, z2, z3⟩, v2, rfl, V2, ?_⟩
      show okR [.c (.string z0), .c (.string z1), .l (z2.map dHd), .c (.string z3)]
      simp only [okR]
      exact ⟨s0, s1, O2, s3, trivial⟩
end
end Go.Proofs.Ytckhjemojopekaa
