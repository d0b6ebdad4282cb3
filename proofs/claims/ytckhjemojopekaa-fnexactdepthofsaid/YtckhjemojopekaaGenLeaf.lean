/-
  The leafs of texts and numbers.
-/
import Derived.Test.YtckhjemojopekaaGenOwn
namespace Go.Proofs.Ytckhjemojopekaa
open Go.RowKit M
set_option linter.unusedVariables false

def dS (s : ByteArray) : List Lf := [.c (.string s)]
def dI (n : Int) : List Lf := [.c (.int .i64 n)]
def dB (n : Int) : List Lf := [.c (.int .u8 n)]
theorem cntRs_map {α : Type} (f : α → List Lf) (c : Nat) (h : ∀ x, cntR (f x) = c) (l : List α) : cntRs (l.map f) = c * l.length := by
  induction l with
  | nil => simp [cntRs]
  | cons x l ih => rw [List.map_cons, cntRs_cons, ih, h, List.length_cons, Nat.mul_add]; omega
theorem cnt_lenF {α : Type} (f : α → List Lf) (h : ∀ x, 1 ≤ cntR (f x)) (l : List α) : l.length ≤ cntRs (l.map f) := by
  induction l with
  | nil => simp
  | cons x l ih => rw [List.map_cons, cntRs_cons, List.length_cons]; have := h x; omega
theorem szRs_flat {α : Type} (f : α → List Lf) (h : ∀ x, szR (f x) = 0) (l : List α) : szRs (l.map f) = l.length := by
  induction l with
  | nil => simp [szRs]
  | cons x l ih => rw [List.map_cons, szRs_cons, ih, h, List.length_cons]; omega
theorem szRs_sub {a b : List (List Lf)} (h : List.Sublist a b) : szRs a ≤ szRs b := by
  induction h with
  | slnil => exact Nat.le_refl _
  | cons x _ ih => rw [szRs_cons]; omega
  | cons_cons x _ ih => rw [szRs_cons, szRs_cons]; omega
theorem okR_mem {r : List Lf} (h : okR r) (x : Lf) (hx : x ∈ r) : okF x := by
  induction r with
  | nil => cases hx
  | cons y r ih =>
    unfold okR at h
    rcases List.mem_cons.1 hx with rfl | hx
    · exact h.1
    · exact ih h.2 hx
theorem cnt_dS (l : List ByteArray) : cntRs (l.map dS) = l.length := by rw [cntRs_map dS 1 (fun _ => by simp [dS, cntR, cntF])]; omega
theorem cnt_dI (l : List Int) : cntRs (l.map dI) = l.length := by rw [cntRs_map dI 1 (fun _ => by simp [dI, cntR, cntF])]; omega
theorem cnt_dB (l : List Int) : cntRs (l.map dB) = l.length := by rw [cntRs_map dB 1 (fun _ => by simp [dB, cntR, cntF])]; omega
end Go.Proofs.Ytckhjemojopekaa
