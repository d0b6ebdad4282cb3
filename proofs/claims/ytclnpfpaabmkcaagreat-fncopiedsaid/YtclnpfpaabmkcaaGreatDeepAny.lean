/-
  What impl.DeepOf hands back.
-/
import Derived.Test.YtclnpfpaabmkcaaGreatGaveIs
namespace Go.Proofs.YtclnpfpaabmkcaaGreat
open Go.RowKit M
set_option linter.unusedVariables false

theorem deepOf_any (a : Option Addr) (rs : List Rs) (cap B : Nat) (b : Option Addr) (p : List ByteArray) (cap' C : Nat) (w : World) (h : Rss w B a rs) (h' : Strs w C b p) (hB : B ≤ w.heap.size) (hC : C ≤ w.heap.size) (hl : rs.length ≤ 1048576) (hl' : p.length ≤ 1048576) (hs : ∀ r ∈ rs, r.pa.length ≤ 1048576 ∧ r.ps.length ≤ 1048576 ∧ (∀ s ∈ r.pa, s.size ≤ 281474976710656) ∧ r.bo.size ≤ 281474976710656 ∧ ∀ p ∈ r.ps, p.1.size ≤ 281474976710656 ∧ p.2.1.size ≤ 281474976710656 ∧ p.2.2.size ≤ 281474976710656) :
    Calls Tryz.prog 13 #[.slice a rs.length cap, .slice b p.length cap'] w fun e w' => (∃ g cap2 pb qb, e = .returned (.slice (some ⟨g, 0, none⟩) (deepL rs p).length cap2) ∧ OwnR w' w.heap.size w'.heap.size g (deepL rs p) pb qb) ∧ Below w.heap.size w w' := by
  refine (deepOf_grow a rs cap B b p cap' C w h h' hB hC hl hl' hs).mono ?_
  rintro e w' ⟨⟨v, ts, rfl, hG, hm, hcp⟩, hb⟩
  obtain ⟨g, cap2, hv, hO⟩ := hG.done hcp
  rw [hm] at hO
  have hll : ts.length = (deepL rs p).length := by rw [← hm]; simp
  rw [hll] at hv
  subst hv
  exact ⟨⟨g, cap2, _, _, rfl, hO⟩, hb⟩
end Go.Proofs.YtclnpfpaabmkcaaGreat
