/-
  Data as memory holds them: leafs, and rows of rows of leafs; their sizes, and what they are when they are marked.
-/
import Derived.Test.YtcgljeagjchobabMathMt
import Derived.Test.YtcgljeagjchobabHide
namespace Go.Proofs.Ytcgljeagjchobab
open Go.RowKit M
set_option linter.unusedVariables false

/-- A leaf: a cell's value, or a slice: of each element its leafs. -/
inductive Lf where
  | c (v : Value)
  | l (rows : List (List Lf))

/-- What an int or a byte is marked with. -/
def mkI (kd : IntKind) (k : Nat) : Int := match kd with
  | .u8 => ((k % 256 : Nat) : Int)
  | _ => (k : Int)
def mkV (k : Nat) : Value → Value
  | .int kd _ => .int kd (mkI kd k)
  | .bool _ => .bool ((k : Int) % 3 == 0)
  | .string _ => .string (mt k)
  | v => v
def szV : Value → Nat
  | .string s => s.size
  | _ => 0
def okV : Value → Prop
  | .string s => s.size ≤ maxLen
  | .int k n => (Lit.int k n).wf = true
  | _ => True

mutual
/-- How many marks it takes. -/
def cntF : Lf → Nat
  | .c _ => 1
  | .l rows => cntRs rows
def cntRs : List (List Lf) → Nat
  | [] => 0
  | r :: rs => cntR r + cntRs rs
def cntR : List Lf → Nat
  | [] => 0
  | x :: r => cntF x + cntR r
end
mutual
/-- Its size, as the laws count it. -/
def szF : Lf → Nat
  | .c v => szV v
  | .l rows => szRs rows
def szRs : List (List Lf) → Nat
  | [] => 0
  | r :: rs => 1 + szR r + szRs rs
def szR : List Lf → Nat
  | [] => 0
  | x :: r => szF x + szR r
end
mutual
/-- Its texts are short enough, and no element has more than twelve leafs. -/
def okF : Lf → Prop
  | .c v => okV v
  | .l rows => okRs rows ∧ rows.length ≤ maxLen
def okRs : List (List Lf) → Prop
  | [] => True
  | r :: rs => (okR r ∧ r.length ≤ 12) ∧ okRs rs
def okR : List Lf → Prop
  | [] => True
  | x :: r => okF x ∧ okR r
end
mutual
/-- Marked, from k on. -/
def mkF (k : Nat) : Lf → Lf
  | .c v => .c (mkV k v)
  | .l rows => .l (mkRs k rows)
def mkRs (k : Nat) : List (List Lf) → List (List Lf)
  | [] => []
  | r :: rs => mkR k r :: mkRs (k + cntR r) rs
def mkR (k : Nat) : List Lf → List Lf
  | [] => []
  | x :: r => mkF k x :: mkR (k + cntF x) r
end

mutual
theorem cnt_leF : ∀ x : Lf, okF x → cntF x ≤ 1 + 12 * szF x
  | .c v, _ => by unfold cntF; omega
  | .l rows, h => by
    unfold okF at h
    unfold cntF szF
    have := cnt_leRs rows h.1
    omega
theorem cnt_leRs : ∀ rows : List (List Lf), okRs rows → cntRs rows ≤ 12 * szRs rows
  | [], _ => by unfold cntRs; omega
  | r :: rs, h => by
    unfold okRs at h
    unfold cntRs szRs
    have h1 := cnt_leR r h.1.1
    have h2 := cnt_leRs rs h.2
    have h3 := h.1.2
    omega
theorem cnt_leR : ∀ r : List Lf, okR r → cntR r ≤ r.length + 12 * szR r
  | [], _ => by unfold cntR; omega
  | x :: r, h => by
    unfold okR at h
    unfold cntR szR
    have h1 := cnt_leF x h.1
    have h2 := cnt_leR r h.2
    rw [List.length_cons]
    omega
end

theorem cntRs_cons (r : List Lf) (rs : List (List Lf)) : cntRs (r :: rs) = cntR r + cntRs rs := by rw [cntRs]
theorem szRs_cons (r : List Lf) (rs : List (List Lf)) : szRs (r :: rs) = 1 + szR r + szRs rs := by rw [szRs]
theorem cntRs_append (a b : List (List Lf)) : cntRs (a ++ b) = cntRs a + cntRs b := by
  induction a with
  | nil => show cntRs b = cntRs [] + cntRs b; rw [cntRs]; omega
  | cons r a ih => rw [List.cons_append, cntRs_cons, cntRs_cons, ih]; omega
theorem szRs_append (a b : List (List Lf)) : szRs (a ++ b) = szRs a + szRs b := by
  induction a with
  | nil => show szRs b = szRs [] + szRs b; rw [szRs]; omega
  | cons r a ih => rw [List.cons_append, szRs_cons, szRs_cons, ih]; omega
theorem cntRs_one (r : List Lf) : cntRs [r] = cntR r := by rw [cntRs_cons, cntRs]; omega
theorem szRs_one (r : List Lf) : szRs [r] = 1 + szR r := by rw [szRs_cons, szRs]; omega
theorem mkRs_length (k : Nat) (rows : List (List Lf)) : (mkRs k rows).length = rows.length := by
  induction rows generalizing k with
  | nil => rw [mkRs]
  | cons r rs ih => rw [mkRs, List.length_cons, List.length_cons, ih]
theorem mkR_length (k : Nat) (r : List Lf) : (mkR k r).length = r.length := by
  induction r generalizing k with
  | nil => rw [mkR]
  | cons x r ih => rw [mkR, List.length_cons, List.length_cons, ih]
theorem szRs_mem (rows : List (List Lf)) (r : List Lf) (h : r ∈ rows) : szR r ≤ szRs rows := by
  induction rows with
  | nil => cases h
  | cons x l ih =>
    rw [szRs_cons]
    rcases List.mem_cons.1 h with rfl | h
    · omega
    · have := ih h; omega
theorem szRs_len (rows : List (List Lf)) : rows.length ≤ szRs rows := by
  induction rows with
  | nil => exact Nat.zero_le _
  | cons x l ih => rw [szRs_cons, List.length_cons]; omega
theorem okRs_mem (rows : List (List Lf)) (h : okRs rows) (r : List Lf) (hr : r ∈ rows) : okR r ∧ r.length ≤ 12 := by
  induction rows with
  | nil => cases hr
  | cons x l ih =>
    unfold okRs at h
    rcases List.mem_cons.1 hr with rfl | hr
    · exact h.1
    · exact ih h.2 hr
theorem okRs_of (rows : List (List Lf)) (h : ∀ r ∈ rows, okR r ∧ r.length ≤ 12) : okRs rows := by
  induction rows with
  | nil => unfold okRs; trivial
  | cons x l ih => unfold okRs; exact ⟨h x (List.mem_cons_self ..), ih fun r hr => h r (List.mem_cons_of_mem _ hr)⟩

section typed
variable {α : Type} (f : α → List Lf)
/-- Where the marks of element j begin. -/
def kAtF (k0 : Nat) (l : List α) (j : Nat) : Nat := k0 + cntRs ((l.take j).map f)
theorem kAtF_zero (k0 : Nat) (l : List α) : kAtF f k0 l 0 = k0 := by simp [kAtF, cntRs]
theorem kAtF_all (k0 : Nat) (l : List α) : kAtF f k0 l l.length = k0 + cntRs (l.map f) := by simp [kAtF]
theorem kAtF_next (k0 : Nat) (l : List α) (j : Nat) (hj : j < l.length) : kAtF f k0 l (j + 1) = kAtF f k0 l j + cntR (f l[j]) := by
  unfold kAtF
  rw [List.take_succ_eq_append_getElem hj, List.map_append, cntRs_append, List.map_cons, List.map_nil, cntRs_one]
  omega
theorem kAtF_le (k0 : Nat) (l : List α) (j : Nat) : k0 ≤ kAtF f k0 l j ∧ kAtF f k0 l j ≤ k0 + cntRs (l.map f) := by
  unfold kAtF
  have h : cntRs ((l.take j).map f) + cntRs ((l.drop j).map f) = cntRs (l.map f) := by
    rw [← cntRs_append, ← List.map_append, List.take_append_drop]
  omega
theorem szAtF_next (l : List α) (j : Nat) (hj : j < l.length) : szRs ((l.take (j + 1)).map f) = szRs ((l.take j).map f) + 1 + szR (f l[j]) := by
  rw [List.take_succ_eq_append_getElem hj, List.map_append, szRs_append, List.map_cons, List.map_nil, szRs_one]
  omega
theorem mkRs_at (k0 : Nat) (l : List α) (j : Nat) (hj : j < l.length) : (mkRs k0 (l.map f))[j]? = some (mkR (kAtF f k0 l j) (f l[j])) := by
  induction l generalizing k0 j with
  | nil => cases hj
  | cons x l ih =>
    rw [List.map_cons, mkRs]
    cases j with
    | zero => rw [kAtF_zero]; rfl
    | succ j =>
      rw [List.getElem?_cons_succ, ih (k0 + cntR (f x)) j (by simpa using hj)]
      have e : kAtF f (k0 + cntR (f x)) l j = kAtF f k0 (x :: l) (j + 1) := by
        unfold kAtF
        rw [List.take_succ_cons, List.map_cons, cntRs_cons]
        omega
      rw [e]
      rfl
theorem map_at (l : List α) (j : Nat) (hj : j < l.length) : (l.map f)[j]? = some (f l[j]) := by
  rw [List.getElem?_map, List.getElem?_eq_getElem hj]
  rfl
end typed
end Go.Proofs.Ytcgljeagjchobab
