/-
  What impl.isThere does.
-/
import Derived.Test.YtckhjemojopekaaFind
namespace Go.Proofs.Ytckhjemojopekaa
open Go.RowKit M
set_option linter.unusedVariables false

/-- Whether it is the root, or there. -/
def thereB (rs : List Rs) (p : List ByteArray) : Bool := decide (p.length = 0) || decide (0 ≤ findI rs p)
theorem there_iff {rs : List Rs} {p : List ByteArray} : thereB rs p = true ↔ p.length = 0 ∨ 0 ≤ findI rs p := by unfold thereB; simp

set_option maxHeartbeats 1000000 in
theorem isThere_any (a : Option Addr) (rs : List Rs) (cap B : Nat) (a' : Option Addr) (p : List ByteArray) (cap' C : Nat) (w : World) (h : Rss w B a rs) (h' : Strs w C a' p) (hl : rs.length ≤ maxLen) (hl' : p.length ≤ maxLen) (hB : B ≤ w.heap.size) (hC : C ≤ w.heap.size) :
    Calls Try.prog 59 #[.slice a rs.length cap, .slice a' p.length cap'] w fun e w' => e = .returned (.bool (thereB rs p)) ∧ Below w.heap.size w w' := by
  have HF := hide (findRes_any a rs cap B a' p cap' C w h h' hl hl' hB hC)
  by_cases h0 : p.length = 0
  · have HZ := hide (show thereB rs p = true from there_iff.2 (.inl h0))
    clear HF
    go_enter Try.func59, Try.ntmps59
    go_wp2
    go_ret
    exact ⟨by rw [HZ.out]; rfl, Below.refl _ _⟩
  · have HZ := hide (show thereB rs p = decide (0 ≤ findI rs p) by unfold thereB; simp [h0])
    have e0 : ((p.length : Int) == 0) = false := by rw [beq_eq_false_iff_ne]; omega
    generalize thereB rs p = z at *
    generalize findI rs p = F at *
    go_enter Try.func59, Try.ntmps59
    go_wp2_with fail
    refine HF.out.mono ?_
    rintro e w1 ⟨rfl, b1⟩
    go_wp2
    go_ret
    exact ⟨by rw [HZ.out]; rfl, b1⟩
end Go.Proofs.Ytckhjemojopekaa
