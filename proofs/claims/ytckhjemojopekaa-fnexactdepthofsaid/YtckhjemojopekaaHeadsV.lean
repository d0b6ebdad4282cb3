/-
  Views of heads, as what a slice of heads holds.
-/
import Derived.Test.YtckhjemojopekaaGenReq
import Derived.Test.YtckhjemojopekaaGenBox
import Derived.Test.YtckhjemojopekaaHeads
namespace Go.Proofs.Ytckhjemojopekaa
open Go.RowKit M
set_option linter.unusedVariables false

theorem hds_of_view {w : World} {B : Nat} {v : Value} {l : List Hd} (h : View w B v (.l (l.map dHd))) : ∃ a cap, v = .slice a l.length cap ∧ l.length ≤ cap ∧ cap ≤ maxLen ∧ (a = none → cap = 0) ∧ Hds w B a l := by
  obtain ⟨a, cap, h1, h2, h3, h4, h5⟩ := h.rows 2 (fun _ => rfl)
  refine ⟨a, cap, h1, h2, h3, h4, fun h0 => ?_⟩
  obtain ⟨b, o, C, e, hb, hc⟩ := h5 h0
  refine ⟨b, o, e, hb, fun j hj => ?_⟩
  obtain ⟨c0, v0⟩ := hc j hj 0 (.c (.string l[j].1)) rfl
  obtain ⟨c1, v1⟩ := hc j hj 1 (.c (.string l[j].2)) rfl
  rw [v0.inv] at c0
  rw [v1.inv] at c1
  exact ⟨c0, c1⟩
/-- The sizes of heads. -/
theorem hds_size {l : List Hd} {m : Nat} (h : szRs (l.map dHd) ≤ m) : ∀ x ∈ l, x.1.size + x.2.size ≤ m := by
  induction l with
  | nil => intro x hx; cases hx
  | cons a r ih =>
    intro x hx
    have e : szRs ((a :: r).map dHd) = 1 + (a.1.size + a.2.size) + szRs (r.map dHd) := by
      simp [szRs, szR, szF, szV, dHd]; try omega
    rw [e] at h
    rcases List.mem_cons.1 hx with rfl | hx
    · omega
    · exact Nat.le_trans (ih (by omega) x hx) (Nat.le_refl _)
theorem hdOf_size {l : List Hd} {m : Nat} (h : ∀ x ∈ l, x.1.size + x.2.size ≤ m) (n : ByteArray) : (hdOf l n).1.size ≤ m := by
  induction l with
  | nil => exact Nat.zero_le _
  | cons a r ih =>
    rw [hdOf]
    split
    · have := h a (List.mem_cons_self ..); simp only; omega
    · exact ih (fun x hx => h x (List.mem_cons_of_mem _ hx))
end Go.Proofs.Ytckhjemojopekaa
