/-
  Marked trees: what the laws' own marks make of a tree.
-/
import Derived.Test.YtclnpfpaabmkcabMathNode
import Derived.Test.YtclnpfpaabmkcabMarkText
namespace Go.Proofs.Ytclnpfpaabmkcab
open M

mutual
def Nd.mkd : Nd → Nat → Nd
  | .mk _ _ _ ks, k => .mk (mt k) (mt (k + 1)) (mt (k + 2)) (mkL ks (k + 3))
def mkL : List Nd → Nat → List Nd
  | [], _ => []
  | x :: r, k => x.mkd k :: mkL r (k + 3 * x.cnt)
end
theorem mkd_ks (n : Nd) (k : Nat) : n.mkd k = .mk (mt k) (mt (k + 1)) (mt (k + 2)) (mkL n.ks (k + 3)) := by cases n; rw [Nd.mkd]; rfl
theorem mkd_ns (n : Nd) (k : Nat) : (n.mkd k).ns = mt k := by rw [mkd_ks]; rfl
theorem mkd_nm (n : Nd) (k : Nat) : (n.mkd k).nm = mt (k + 1) := by rw [mkd_ks]; rfl
theorem mkd_tx (n : Nd) (k : Nat) : (n.mkd k).tx = mt (k + 1 + 1) := by rw [mkd_ks]; rfl
theorem mkd_kk (n : Nd) (k : Nat) : (n.mkd k).ks = mkL n.ks (k + 1 + 1 + 1) := by rw [mkd_ks]; rfl
theorem mkL_length : ∀ (ks : List Nd) (k : Nat), (mkL ks k).length = ks.length
  | [], k => rfl
  | x :: r, k => by rw [mkL, List.length_cons, List.length_cons, mkL_length r]
theorem cntL_snoc : ∀ (ks : List Nd) (k : Nat) (h : k < ks.length), cntL (ks.take (k + 1)) = cntL (ks.take k) + (ks[k]).cnt
  | x :: r, 0, _ => by simp [cntL]
  | x :: r, k + 1, h => by
    have := cntL_snoc r k (by simpa using h)
    simp only [List.take_succ_cons, cntL, List.getElem_cons_succ]
    omega
theorem cntL_take (ks : List Nd) (k : Nat) : cntL (ks.take k) ≤ cntL ks := by
  induction ks generalizing k with
  | nil => simp [cntL]
  | cons x r ih =>
    cases k with
    | zero => simp [cntL]
    | succ k => have := ih k; simp only [List.take_succ_cons, cntL]; omega
theorem len_cnt : ∀ ks : List Nd, ks.length ≤ cntL ks
  | [] => Nat.le_refl _
  | x :: r => by
    have h1 := len_cnt r
    have h2 := cnt_ks x
    rw [cntL, List.length_cons]
    omega
/-- The first j are marked, the others as they were. -/
def mkJ (ks : List Nd) (k j : Nat) : List Nd := mkL (ks.take j) k ++ ks.drop j
theorem mkJ_zero (ks : List Nd) (k : Nat) : mkJ ks k 0 = ks := by simp [mkJ, mkL]
theorem mkJ_all (ks : List Nd) (k j : Nat) (h : ks.length ≤ j) : mkJ ks k j = mkL ks k := by
  unfold mkJ
  rw [List.take_of_length_le h, List.drop_of_length_le h, List.append_nil]
theorem mkJ_length (ks : List Nd) (k j : Nat) : (mkJ ks k j).length = ks.length := by
  unfold mkJ
  rw [List.length_append, mkL_length, List.length_take, List.length_drop]
  omega
theorem mkL_append : ∀ (a b : List Nd) (k : Nat), mkL (a ++ b) k = mkL a k ++ mkL b (k + 3 * cntL a)
  | [], b, k => by simp [mkL, cntL]
  | x :: r, b, k => by
    rw [List.cons_append, mkL, mkL_append r b, mkL, cntL]
    simp only [List.cons_append]
    congr 3
    omega
theorem mkJ_at (ks : List Nd) (k j : Nat) (h : j < ks.length) (h' : j < (mkJ ks k j).length) : (mkJ ks k j)[j] = ks[j] := by
  have hl : (mkL (ks.take j) k).length = j := by rw [mkL_length, List.length_take]; omega
  have e : (mkJ ks k j)[j]? = some ks[j] := by
    unfold mkJ
    rw [List.getElem?_append_right (by omega), hl, Nat.sub_self, List.getElem?_drop, Nat.add_zero, List.getElem?_eq_getElem h]
  obtain ⟨_, e2⟩ := List.getElem?_eq_some_iff.1 e
  exact e2
theorem mkJ_step (ks : List Nd) (k j : Nat) (h : j < ks.length) : (mkJ ks k j).set j ((ks[j]).mkd (k + 3 * cntL (ks.take j))) = mkJ ks k (j + 1) := by
  unfold mkJ
  have hl : (mkL (ks.take j) k).length = j := by rw [mkL_length, List.length_take]; omega
  rw [List.set_append_right _ _ (by omega), hl, Nat.sub_self, drop_at ks j h, List.set_cons_zero, List.take_add_one, List.getElem?_eq_getElem h, Option.toList, mkL_append]
  simp [mkL]
theorem mkL_at : ∀ (ks : List Nd) (k j : Nat) (h : j < ks.length) (h' : j < (mkL ks k).length), (mkL ks k)[j] = (ks[j]).mkd (k + 3 * cntL (ks.take j))
  | x :: r, k, 0, _, _ => by simp [mkL, cntL]
  | x :: r, k, j + 1, h, h' => by
    have := mkL_at r (k + 3 * x.cnt) j (by simpa using h) (by rw [mkL_length]; simpa using h)
    simp only [mkL, List.getElem_cons_succ, List.take_succ_cons, cntL]
    rw [this]
    congr 1
    omega
mutual
theorem mkd_cnt : ∀ (n : Nd) (k : Nat), (n.mkd k).cnt = n.cnt
  | .mk a b c ks, k => by rw [Nd.mkd, Nd.cnt, Nd.cnt, mkL_cnt ks]
theorem mkL_cnt : ∀ (ks : List Nd) (k : Nat), cntL (mkL ks k) = cntL ks
  | [], k => rfl
  | x :: r, k => by rw [mkL, cntL, cntL, mkd_cnt x, mkL_cnt r]
end
end Go.Proofs.Ytclnpfpaabmkcab
