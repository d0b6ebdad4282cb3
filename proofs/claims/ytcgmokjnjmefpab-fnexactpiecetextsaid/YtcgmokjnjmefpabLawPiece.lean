/-
  What the laws' own helps on pieces do: sizes, copies.
-/
import Derived.Test.YtcgmokjnjmefpabMathPieces
import Derived.Test.YtcgmokjnjmefpabRows
import Derived.Test.YtcgmokjnjmefpabHide
import Derived.WalkKit
import Derived.WalkSpells
import Derived.WalkLawsBesides
import Derived.Deep.Light
namespace Go.Proofs.Ytcgmokjnjmefpab
open Go.RowKit M
set_option linter.unusedVariables false

set_option maxHeartbeats 1000000 in
theorem szPiece_any (p : Pce) (left : Nat) (w : World) (h1 : p.name.size ≤ maxLen) (h2 : p.ns.size ≤ maxLen) (h3 : p.s.size ≤ maxLen) (hl : left ≤ 1048576) :
    Calls Try.prog 4 #[.agg #[.int .i64 p.k, .string p.name, .string p.ns, .bool p.has, .string p.s], .int .i64 left] w fun e w' => (∃ z : Int, e = .returned (.int .i64 z) ∧ (z < 0 ∨ p.name.size + p.ns.size + p.s.size ≤ left)) ∧ Below w.heap.size w w' := by
  obtain ⟨k, name, ns, has, s⟩ := p
  simp only at *
  unfold maxLen at h1 h2 h3
  by_cases hx : left < name.size
  · go_enter Try.func4, Try.ntmps4
    go_wp2
    go_ret
    exact ⟨⟨_, rfl, .inl (by omega)⟩, (Below.refl _ _).alloc (Nat.le_refl _) _⟩
  by_cases hy : left < name.size + ns.size
  · go_enter Try.func4, Try.ntmps4
    go_wp2
    go_ret
    exact ⟨⟨_, rfl, .inl (by omega)⟩, (Below.refl _ _).alloc (Nat.le_refl _) _⟩
  by_cases hz : left < name.size + ns.size + s.size
  · go_enter Try.func4, Try.ntmps4
    go_wp2
    go_ret
    exact ⟨⟨_, rfl, .inl (by omega)⟩, (Below.refl _ _).alloc (Nat.le_refl _) _⟩
  · go_enter Try.func4, Try.ntmps4
    go_wp2
    go_ret
    exact ⟨⟨_, rfl, .inr (by omega)⟩, (Below.refl _ _).alloc (Nat.le_refl _) _⟩

set_option maxRecDepth 100000 in
set_option maxHeartbeats 1000000 in
theorem toPiece_any (p : Pce) (w : World) :
    Calls Try.prog 6 #[.agg #[.int .i64 p.k, .string p.name, .string p.ns, .bool p.has, .string p.s]] w fun e w' => e = .returned (.agg #[.int .i64 p.k, .string p.name, .string p.ns, .bool p.has, .string p.s]) ∧ Below w.heap.size w w' := by
  obtain ⟨k, name, ns, has, s⟩ := p
  go_enter Try.func6, Try.ntmps6
  go_wp2
  refine bodyPost_ret (v := .agg #[.int .i64 k, .string name, .string ns, .bool has, .string s]) (by simp [results, Try.results6, go_sem]) rfl ⟨rfl, ?_⟩
  exact (((Below.refl _ _).alloc (Nat.le_refl _) _).alloc (by simp) _).alloc (by simp; omega) _
end Go.Proofs.Ytcgmokjnjmefpab
