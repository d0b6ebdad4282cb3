/-
  What impl.IsColl does.
-/
import Derived.Test.YtclnpfpaabmkcaaGreatAskRef
namespace Go.Proofs.YtclnpfpaabmkcaaGreat
open Go.RowKit M
set_option linter.unusedVariables false

set_option maxHeartbeats 1000000 in
theorem isColl_any (a : Option Addr) (rs : List Rs) (cap B : Nat) (a' : Option Addr) (p : List ByteArray) (cap' C : Nat) (w : World) (h : Rss w B a rs) (h' : Strs w C a' p) (hl : rs.length ≤ maxLen) (hl' : p.length ≤ maxLen) (hB : B ≤ w.heap.size) (hC : C ≤ w.heap.size) :
    Calls Tryz.prog 39 #[.slice a rs.length cap, .slice a' p.length cap'] w fun e w' => e = .returned (.bool (collB rs p)) ∧ Below w.heap.size w w' := by
  by_cases hp : p.length = 0
  · rw [collB_root hp, hp]
    go_enter Tryz.func39, Tryz.ntmps39
    go_wp2
    go_ret
    exact ⟨rfl, Below.refl _ _⟩
  · have hF := findRes_any a rs cap B a' p cap' C w h h' hl hl' hB hC
    unfold maxLen at hl hl'
    rcases findI_cases rs p with e | ⟨k, hk, e, _⟩
    · rw [collB_none e hp]
      rw [e] at hF
      have HF := hide hF
      clear hF e
      go_enter Tryz.func39, Tryz.ntmps39
      go_wp2_with fail
      refine HF.out.mono ?_
      rintro e w1 ⟨rfl, b1⟩
      go_wp2
      go_ret
      exact ⟨rfl, b1⟩
    · rw [collB_at k hk e hp]
      rw [e] at hF
      have HF := hide hF
      clear hF e
      obtain ⟨b, o, rfl, hb, hcc⟩ := h (by omega)
      obtain ⟨pa, pc, qa, qc, ⟨hc0, hc1, hc2, hc3, hc4⟩, hin⟩ := hcc k hk
      clear hcc hin
      have hk0 : (0 : Int) ≤ (k : Int) := by omega
      go_enter Tryz.func39, Tryz.ntmps39
      go_wp2_with fail
      refine HF.out.mono ?_
      rintro e w1 ⟨rfl, b1⟩
      have hd := (b1.cell (p := ⟨b, o + k * 5 + 1, none⟩) (by show b < _; omega)).trans hc1
      go_wp2
      go_ret
      exact ⟨rfl, b1⟩
end Go.Proofs.YtclnpfpaabmkcaaGreat
