/-
  What spec.IsColl does.
-/
import Derived.Test.YtehoilheihpopabSpecFind
namespace Go.Proofs.Ytehoilheihpopab
open Go.RowKit M
set_option linter.unusedVariables false

set_option maxHeartbeats 1000000 in
theorem specIsColl_any (a : Option Addr) (rs : List Rs) (cap B : Nat) (a' : Option Addr) (p : List ByteArray) (cap' C : Nat) (w : World) (h : Rss w B a rs) (h' : Strs w C a' p) (hl : rs.length ≤ maxLen) (hl' : p.length ≤ maxLen) :
    Calls Try.prog 9 #[.slice a rs.length cap, .slice a' p.length cap'] w fun e w' => e = .returned (.bool (collB rs p)) ∧ ∀ D, Below D w w' := by
  have hF := specFind_any a rs cap B a' p cap' C w h h' hl hl'
  unfold maxLen at hl hl'
  by_cases hp : p.length = 0
  · rw [collB_root hp]
    rw [hp] at hF ⊢
    have HF := hide hF
    clear hF hp
    go_enter Try.func9, Try.ntmps9
    go_wp2_with fail
    refine HF.out.mono ?_
    rintro e w1 ⟨rfl, b1⟩
    go_wp2
    go_ret
    exact ⟨rfl, b1⟩
  · have HP0 := hide (show ((p.length : Int) == 0) = false by rw [beq_eq_false_iff_ne]; omega)
    rcases findI_cases rs p with e | ⟨k, hk, e, _⟩
    · rw [collB_none e hp]
      rw [e] at hF
      have HF := hide hF
      clear hF e
      go_enter Try.func9, Try.ntmps9
      go_wp2_with fail
      refine HF.out.mono ?_
      rintro e w1 ⟨rfl, b1⟩
      go_wp2
      go_ret
      exact ⟨by show Ending.returned (.bool ((p.length : Int) == 0)) = _; rw [HP0.out], b1⟩
    · rw [collB_at k hk e hp]
      rw [e] at hF
      have HF := hide hF
      clear hF e
      obtain ⟨b, o, rfl, hb, hcc⟩ := h (by omega)
      obtain ⟨pa, pc, qa, qc, ⟨hc0, hc1, hc2, hc3, hc4⟩, hin⟩ := hcc k hk
      clear hcc hin
      have hk0 : (0 : Int) ≤ (k : Int) := by omega
      go_enter Try.func9, Try.ntmps9
      go_wp2_with fail
      refine HF.out.mono ?_
      rintro e w1 ⟨rfl, b1⟩
      have hd := ((b1 (b + 1)).cell (p := ⟨b, o + k * 5 + 1, none⟩) (Nat.lt_succ_self _)).trans hc1
      go_wp2
      go_ret
      exact ⟨by show Ending.returned (.bool (((p.length : Int) == 0) || rs[k].co)) = _; rw [HP0.out]; rfl, b1⟩
end Go.Proofs.Ytehoilheihpopab
