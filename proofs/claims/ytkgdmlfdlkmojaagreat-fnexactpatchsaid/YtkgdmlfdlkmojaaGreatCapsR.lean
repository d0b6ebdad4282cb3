/-
  Growing rows of things whose lists have no room besides.
-/
import Derived.Test.YtkgdmlfdlkmojaaGreatRowsR
namespace Go.Proofs.YtkgdmlfdlkmojaaGreat
open Go.RowKit M
set_option linter.unusedVariables false

theorem GrowR.up {w : World} {B lo lo' : Nat} {v : Value} {ts : List RsT} (g : GrowR w B v ts lo) (h1 : lo ≤ lo') (h2 : lo' ≤ w.heap.size) : GrowR w B v ts lo' := by
  obtain ⟨b, cap, hv, hb⟩ := g.blk
  exact ⟨g.own, ⟨b, cap, hv, Nat.lt_of_lt_of_le hb h1⟩, h2, fun j hj => by obtain ⟨k1, k2, k3, k4⟩ := g.el j hj; exact ⟨k1, k2, Nat.lt_of_lt_of_le k3 h1, k4⟩, g.ord, g.caps⟩
theorem caps_snoc {ts : List RsT} {r : Rs} {p q : Nat} (h : ∀ j (hj : j < ts.length), ts[j].pc = ts[j].r.pa.length ∧ ts[j].qc = ts[j].r.ps.length) : ∀ j (hj : j < (ts ++ [(⟨r, p, r.pa.length, q, r.ps.length⟩ : RsT)]).length), (ts ++ [(⟨r, p, r.pa.length, q, r.ps.length⟩ : RsT)])[j].pc = (ts ++ [(⟨r, p, r.pa.length, q, r.ps.length⟩ : RsT)])[j].r.pa.length ∧ (ts ++ [(⟨r, p, r.pa.length, q, r.ps.length⟩ : RsT)])[j].qc = (ts ++ [(⟨r, p, r.pa.length, q, r.ps.length⟩ : RsT)])[j].r.ps.length := by
  intro j hj
  by_cases e : j < ts.length
  · rw [List.getElem_append_left e]; exact h j e
  · have ej : j = ts.length := by simp at hj; omega
    subst ej
    simp
end Go.Proofs.YtkgdmlfdlkmojaaGreat
