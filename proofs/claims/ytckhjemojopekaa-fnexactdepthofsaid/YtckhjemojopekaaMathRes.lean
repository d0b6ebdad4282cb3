/-
  What is known of things, and things: no program in sight.
-/
import GoSem.Op.String
namespace Go.Proofs.Ytckhjemojopekaa.M

/-- What is known: its space, its name, its value. -/
abbrev Pp := ByteArray × ByteArray × ByteArray
/-- A thing. -/
structure Rs where
  pa : List ByteArray
  co : Bool
  bo : ByteArray
  ve : Int
  ps : List Pp
deriving DecidableEq

def szP (p : Pp) : Nat := p.1.size + p.2.1.size + p.2.2.size
def sumP (ps : List Pp) : Nat := (ps.map szP).sum
theorem sumP_snoc (ps : List Pp) (k : Nat) (hk : k < ps.length) : sumP (ps.take (k + 1)) = sumP (ps.take k) + szP ps[k] := by
  unfold sumP
  rw [List.take_succ_eq_append_getElem hk, List.map_append, List.sum_append]
  simp only [List.map_cons, List.map_nil, List.sum_cons, List.sum_nil, Nat.add_zero]
theorem sumP_mem (ps : List Pp) (p : Pp) (h : p ∈ ps) : szP p ≤ sumP ps := by
  induction ps with
  | nil => cases h
  | cons x l ih =>
    simp only [sumP, List.map_cons, List.sum_cons] at *
    rcases List.mem_cons.1 h with rfl | h
    · omega
    · have := ih h; omega

def sameP (ss tt : List Pp) : Bool := decide (ss = tt)
theorem sameP_refl (ss : List Pp) : sameP ss ss = true := by simp [sameP]
theorem sameP_len {ss tt : List Pp} (h : ¬ ss.length = tt.length) : sameP ss tt = false := by
  simp only [sameP, decide_eq_false_iff_not]; intro e; exact h (by rw [e])
theorem sameP_not {ss tt : List Pp} (k : Nat) (h1 : k < ss.length) (h2 : k < tt.length) (h : ¬ ss[k] = tt[k]) : sameP ss tt = false := by
  simp only [sameP, decide_eq_false_iff_not]; intro e; subst e; exact h rfl
theorem sameP_all {ss tt : List Pp} (hl : ss.length = tt.length) (k : Nat) (hk : ¬ k < ss.length) (h : ss.take k = tt.take k) : sameP ss tt = true := by
  rw [List.take_of_length_le (by omega), List.take_of_length_le (by omega)] at h
  simp [sameP, h]
theorem take_sameP {ss tt : List Pp} (k : Nat) (h1 : k < ss.length) (h2 : k < tt.length) (h0 : ss.take k = tt.take k) (h : ss[k] = tt[k]) : ss.take (k + 1) = tt.take (k + 1) := by
  rw [List.take_succ_eq_append_getElem h1, List.take_succ_eq_append_getElem h2, h0, h]

def sumL (ss : List ByteArray) : Nat := (ss.map (·.size)).sum
def szR (r : Rs) : Nat := r.pa.length + sumL r.pa + r.bo.size + (r.ps.length + sumP r.ps)
def sumR (rs : List Rs) : Nat := (rs.map szR).sum
theorem sumR_snoc (rs : List Rs) (k : Nat) (hk : k < rs.length) : sumR (rs.take (k + 1)) = sumR (rs.take k) + szR rs[k] := by
  unfold sumR
  rw [List.take_succ_eq_append_getElem hk, List.map_append, List.sum_append]
  simp only [List.map_cons, List.map_nil, List.sum_cons, List.sum_nil, Nat.add_zero]
theorem sumR_mem (rs : List Rs) (r : Rs) (h : r ∈ rs) : szR r ≤ sumR rs := by
  induction rs with
  | nil => cases h
  | cons x l ih =>
    simp only [sumR, List.map_cons, List.sum_cons] at *
    rcases List.mem_cons.1 h with rfl | h
    · omega
    · have := ih h; omega

def sameT (ss tt : List Rs) : Bool := decide (ss = tt)
theorem sameT_refl (ss : List Rs) : sameT ss ss = true := by simp [sameT]
theorem sameT_len {ss tt : List Rs} (h : ¬ ss.length = tt.length) : sameT ss tt = false := by
  simp only [sameT, decide_eq_false_iff_not]; intro e; exact h (by rw [e])
theorem sameT_not {ss tt : List Rs} (k : Nat) (h1 : k < ss.length) (h2 : k < tt.length) (h : ¬ ss[k] = tt[k]) : sameT ss tt = false := by
  simp only [sameT, decide_eq_false_iff_not]; intro e; subst e; exact h rfl
theorem sameT_all {ss tt : List Rs} (hl : ss.length = tt.length) (k : Nat) (hk : ¬ k < ss.length) (h : ss.take k = tt.take k) : sameT ss tt = true := by
  rw [List.take_of_length_le (by omega), List.take_of_length_le (by omega)] at h
  simp [sameT, h]
theorem take_sameT {ss tt : List Rs} (k : Nat) (h1 : k < ss.length) (h2 : k < tt.length) (h0 : ss.take k = tt.take k) (h : ss[k] = tt[k]) : ss.take (k + 1) = tt.take (k + 1) := by
  rw [List.take_succ_eq_append_getElem h1, List.take_succ_eq_append_getElem h2, h0, h]
end Go.Proofs.Ytckhjemojopekaa.M
