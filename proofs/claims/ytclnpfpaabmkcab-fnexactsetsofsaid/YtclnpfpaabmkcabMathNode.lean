/-
  Trees of marks: how many there are, how great they are, which are right.
-/
import Derived.Test.YtclnpfpaabmkcabMathSmall
namespace Go.Proofs.Ytclnpfpaabmkcab
open M

inductive Nd where
  | mk (ns nm tx : ByteArray) (ks : List Nd)

def Nd.ns : Nd → ByteArray | .mk a _ _ _ => a
def Nd.nm : Nd → ByteArray | .mk _ a _ _ => a
def Nd.tx : Nd → ByteArray | .mk _ _ a _ => a
def Nd.ks : Nd → List Nd | .mk _ _ _ a => a

mutual
def Nd.cnt : Nd → Nat
  | .mk _ _ _ ks => cntL ks + 1
def cntL : List Nd → Nat
  | [] => 0
  | k :: r => k.cnt + cntL r
end

mutual
def Nd.szN : Nd → Nat
  | .mk a b c ks => a.size + b.size + c.size + (ks.length + szL ks)
def szL : List Nd → Nat
  | [] => 0
  | k :: r => k.szN + szL r
end

mutual
theorem Nd.cnt_le : ∀ n : Nd, n.cnt ≤ n.szN + 1
  | .mk a b c ks => by
    have := cntL_le ks
    unfold Nd.cnt Nd.szN
    omega
theorem cntL_le : ∀ ks : List Nd, cntL ks ≤ ks.length + szL ks
  | [] => by simp [cntL]
  | k :: r => by
    have h1 := k.cnt_le
    have h2 := cntL_le r
    simp only [cntL, szL, List.length_cons]
    omega
end

theorem cntL_mem : ∀ (ks : List Nd) (n : Nd), n ∈ ks → n.cnt ≤ cntL ks
  | k :: r, n, h => by
    rw [cntL]
    rcases List.mem_cons.1 h with rfl | h
    · omega
    · have := cntL_mem r n h; omega
theorem szL_mem : ∀ (ks : List Nd) (n : Nd), n ∈ ks → n.szN ≤ szL ks
  | k :: r, n, h => by
    rw [szL]
    rcases List.mem_cons.1 h with rfl | h
    · omega
    · have := szL_mem r n h; omega
theorem cnt_ks (n : Nd) : n.cnt = cntL n.ks + 1 := by cases n; rfl
theorem szN_ks (n : Nd) : n.szN = n.ns.size + n.nm.size + n.tx.size + (n.ks.length + szL n.ks) := by cases n; rfl
theorem cntL_at (ks : List Nd) (j : Nat) (hj : j < ks.length) : cntL (ks[j]).ks < cntL ks := by
  have h1 := cntL_mem ks _ (List.getElem_mem hj)
  have h2 := cnt_ks ks[j]
  omega
theorem drop_at {α : Type} (l : List α) (k : Nat) (h : k < l.length) : l.drop k = l[k] :: l.drop (k + 1) := List.drop_eq_getElem_cons h

theorem szL_snoc : ∀ (ks : List Nd) (k : Nat) (h : k < ks.length), szL (ks.take (k + 1)) = szL (ks.take k) + (ks[k]).szN
  | x :: r, 0, _ => by simp [szL]
  | x :: r, k + 1, h => by
    have := szL_snoc r k (by simpa using h)
    simp only [List.take_succ_cons, szL, List.getElem_cons_succ]
    omega

/-- The one's own parts. -/
def ownN (n : Nd) : Bool := allB n.ns.data.toList [0] && decide (n.ns.size ≤ 20) && smB n.nm.data.toList && allB n.tx.data.toList [0] && decide (n.tx.size ≤ 60) && (decide (n.tx.size = 0) || decide (n.ks.length = 0))

mutual
/-- How many there are, as the specification counts: d is how deep there may still be. -/
def Nd.cS : Nd → Nat → Nat
  | .mk a b c ks, d => if d = 0 ∨ ownN (.mk a b c ks) = false then 100 else cSL ks (d - 1) 1
def cSL : List Nd → Nat → Nat → Nat
  | [], _, k => k
  | x :: r, d, k => if k ≤ 20 then cSL r d (k + x.cS d) else k
end
mutual
/-- How many there may be behind it, as the program tells. -/
def Nd.iS : Nd → Nat → Nat → Option Nat
  | .mk a b c ks, d, l => if d = 0 ∨ l = 0 ∨ ownN (.mk a b c ks) = false then none else iSL ks (d - 1) (l - 1)
def iSL : List Nd → Nat → Nat → Option Nat
  | [], _, l => some l
  | x :: r, d, l => match x.iS d l with
    | none => none
    | some l' => iSL r d l'
end
theorem cS_ks (n : Nd) (d : Nat) : n.cS d = if d = 0 ∨ ownN n = false then 100 else cSL n.ks (d - 1) 1 := by cases n; rw [Nd.cS]; rfl
theorem iS_ks (n : Nd) (d l : Nat) : n.iS d l = if d = 0 ∨ l = 0 ∨ ownN n = false then none else iSL n.ks (d - 1) (l - 1) := by cases n; rw [Nd.iS]; rfl

theorem cSL_ge : ∀ (r : List Nd) (d k : Nat), k ≤ cSL r d k
  | [], d, k => by simp [cSL]
  | x :: r, d, k => by
    rw [cSL]
    split
    · exact Nat.le_trans (by omega) (cSL_ge r d _)
    · omega

mutual
theorem cS_le : ∀ (n : Nd) (d : Nat), n.cS d ≤ 100 + 20 * d
  | .mk a b c ks, d => by
    rw [Nd.cS]
    split
    · omega
    · have := cSL_le ks (d - 1) 1 (by omega); omega
theorem cSL_le : ∀ (r : List Nd) (d k : Nat), k ≤ 120 + 20 * d → cSL r d k ≤ 120 + 20 * d
  | [], d, k, h => by simpa [cSL] using h
  | x :: r, d, k, h => by
    rw [cSL]
    split
    · have := cS_le x d; exact cSL_le r d _ (by omega)
    · omega
end

mutual
theorem iS_cS : ∀ (n : Nd) (d l : Nat), l ≤ 20 → n.iS d l = if n.cS d ≤ l then some (l - n.cS d) else none
  | .mk a b c ks, d, l, h => by
    rw [Nd.iS, Nd.cS]
    by_cases h1 : d = 0 ∨ ownN (.mk a b c ks) = false
    · rw [if_pos h1, if_pos (by rcases h1 with h1 | h1 <;> simp [h1]), if_neg (by omega)]
    · rw [if_neg h1]
      by_cases h2 : l = 0
      · rw [if_pos (by simp [h2]), if_neg (by have := cSL_ge ks (d - 1) 1; omega)]
      · rw [if_neg (by simp only [not_or] at h1 ⊢; exact ⟨h1.1, h2, h1.2⟩), iSL_cSL ks (d - 1) (l - 1) 1 (by omega)]
        have e : 1 + (l - 1) = l := by omega
        rw [e]
theorem iSL_cSL : ∀ (r : List Nd) (d l k : Nat), k + l ≤ 20 → iSL r d l = if cSL r d k ≤ k + l then some (k + l - cSL r d k) else none
  | [], d, l, k, h => by simp [iSL, cSL]
  | x :: r, d, l, k, h => by
    rw [iSL, cSL, iS_cS x d l (by omega)]
    rw [if_pos (show k ≤ 20 by omega)]
    by_cases h1 : x.cS d ≤ l
    · rw [if_pos h1]
      have e : k + x.cS d + (l - x.cS d) = k + l := by omega
      have := iSL_cSL r d (l - x.cS d) (k + x.cS d) (by omega)
      rw [e] at this
      exact this
    · rw [if_neg h1, if_neg (by have := cSL_ge r d (k + x.cS d); omega)]
end

/-- Whether a tree is right. -/
def nodeB (n : Nd) : Bool := decide (n.cS 5 ≤ 20)
theorem nodeB_iS (n : Nd) : (n.iS 5 20).isSome = nodeB n := by
  rw [iS_cS n 5 20 (by omega)]
  unfold nodeB
  split <;> simp_all

mutual
/-- Whether two trees are the same. -/
def Nd.same : Nd → Nd → Bool
  | .mk a b c ks, n => decide (a = n.ns) && decide (b = n.nm) && decide (c = n.tx) && sameK ks n.ks
def sameK : List Nd → List Nd → Bool
  | [], [] => true
  | x :: r, y :: s => x.same y && sameK r s
  | _, _ => false
end
mutual
theorem same_refl : ∀ n : Nd, n.same n = true
  | .mk a b c ks => by simp [Nd.same, Nd.ns, Nd.nm, Nd.tx, Nd.ks, sameK_refl ks]
theorem sameK_refl : ∀ ks : List Nd, sameK ks ks = true
  | [] => rfl
  | x :: r => by simp [sameK, same_refl x, sameK_refl r]
end
mutual
theorem same_eq : ∀ n m : Nd, n.same m = true → n = m
  | .mk a b c ks, .mk a' b' c' ks', h => by
    simp only [Nd.same, Nd.ns, Nd.nm, Nd.tx, Nd.ks, Bool.and_eq_true] at h
    obtain ⟨⟨⟨h1, h2⟩, h3⟩, h⟩ := h
    rw [of_decide_eq_true h1, of_decide_eq_true h2, of_decide_eq_true h3, sameK_eq ks ks' h]
theorem sameK_eq : ∀ ks ls : List Nd, sameK ks ls = true → ks = ls
  | [], [], _ => rfl
  | x :: r, y :: s, h => by
    simp only [sameK, Bool.and_eq_true] at h
    rw [same_eq x y h.1, sameK_eq r s h.2]
  | [], y :: s, h => by simp [sameK] at h
  | x :: r, [], h => by simp [sameK] at h
end
theorem same_ks (n m : Nd) : n.same m = (decide (n.ns = m.ns) && decide (n.nm = m.nm) && decide (n.tx = m.tx) && sameK n.ks m.ks) := by cases n; rfl
theorem sameK_len : ∀ ks ls : List Nd, ks.length ≠ ls.length → sameK ks ls = false
  | [], [], h => absurd rfl h
  | x :: r, y :: s, h => by simp only [sameK, sameK_len r s (by simpa using h), Bool.and_false]
  | [], y :: s, h => rfl
  | x :: r, [], h => rfl
end Go.Proofs.Ytclnpfpaabmkcab
