/-
  MayTurn on both sides, over views.
-/
import Derived.Test.YtackgogcpdbnlabMayTop
import Derived.Test.YtackgogcpdbnlabSpecMay
import Derived.Test.YtackgogcpdbnlabGenLockV
namespace Go.Proofs.Ytackgogcpdbnlab
open Go.RowKit M
set_option linter.unusedVariables false

theorem ints_of_view {w : World} {B : Nat} {v : Value} {l : List Int} (h : View w B v (.l (l.map dI))) : ∃ a cap, v = .slice a l.length cap ∧ l.length ≤ cap ∧ cap ≤ maxLen ∧ (a = none → cap = 0) ∧ Ints w B a l := by
  obtain ⟨a, cap, h1, h2, h3, h4, h5⟩ := h.rows 1 (fun _ => rfl)
  refine ⟨a, cap, h1, h2, h3, h4, fun h0 => ?_⟩
  obtain ⟨b, o, C, e, hb, hc⟩ := h5 h0
  refine ⟨b, o, e, hb, fun j hj => ?_⟩
  obtain ⟨c, v⟩ := hc j hj 0 (.c (.int .i64 l[j])) rfl
  rw [v.inv] at c
  simpa using c

theorem specMay_gen (l : List Lk) (p : List ByteArray) (deep : Bool) (toks : List Int) (u q t : Value) (W : World) (h : View W W.heap.size u (.l (l.map dLk))) (h' : View W W.heap.size q (.l (p.map dS))) (h2 : View W W.heap.size t (.l (toks.map dI))) (hsz : szRs (l.map dLk) ≤ 1048576) (htl : toks.length ≤ 1048576) :
    Calls Try.prog 32 #[u, q, .bool deep, t] W fun e w' => e = .returned (.bool (mayB l p deep toks)) ∧ Below W.heap.size W w' := by
  obtain ⟨a, cap, rfl, h1, h2, h3, h4⟩ := lks_of_view h
  obtain ⟨b, c, rfl, k1, k2, k3, k4⟩ := strs_of_view h'
  obtain ⟨d, e, rfl, m1, m2, m3, m4⟩ := ints_of_view ‹View W W.heap.size t _›
  exact specMay_any a l cap W.heap.size b p c W.heap.size deep d toks e W.heap.size W h4 (Nat.le_refl _) k4 (Nat.le_refl _) m4 (Nat.le_refl _) (lk_len hsz) k1 k2 htl
theorem may_gen (l : List Lk) (p : List ByteArray) (deep : Bool) (toks : List Int) (u q t : Value) (W : World) (h : View W W.heap.size u (.l (l.map dLk))) (h' : View W W.heap.size q (.l (p.map dS))) (h2 : View W W.heap.size t (.l (toks.map dI))) (hsz : szRs (l.map dLk) ≤ 1048576) (htl : toks.length ≤ 1048576) :
    Calls Try.prog 34 #[u, q, .bool deep, t] W fun e w' => e = .returned (.bool (mayB l p deep toks)) ∧ Below W.heap.size W w' := by
  obtain ⟨a, cap, rfl, h1, h2, h3, h4⟩ := lks_of_view h
  obtain ⟨b, c, rfl, k1, k2, k3, k4⟩ := strs_of_view h'
  obtain ⟨d, e, rfl, m1, m2, m3, m4⟩ := ints_of_view ‹View W W.heap.size t _›
  exact mayTurn_any a l cap W.heap.size b p c W.heap.size deep d toks e W.heap.size W h4 (Nat.le_refl _) k4 (Nat.le_refl _) m4 (Nat.le_refl _) k1 k2 (lk_len hsz) htl
end Go.Proofs.Ytackgogcpdbnlab
