/-
  The text of a tree of marks.
-/
import Derived.Test.YtccehdlgpbeijaaGreatDoorRowsP
namespace Go.Proofs.YtccehdlgpbeijaaGreatDoor
open M

/-- The space of a mark, as its text has it. -/
def spN (ns outer : ByteArray) : List UInt8 := if ns = outer then [] else spcS ++ escL ns.data.toList ++ [34]

mutual
def Nd.txt : Nd → ByteArray → List UInt8
  | .mk a b c ks, o => if c.size = 0 ∧ ks.length = 0 then [60] ++ b.data.toList ++ spN a o ++ [47, 62] else [60] ++ b.data.toList ++ spN a o ++ [62] ++ escL c.data.toList ++ txtL ks a ++ ([60, 47] ++ b.data.toList ++ [62])
def txtL : List Nd → ByteArray → List UInt8
  | [], _ => []
  | x :: r, o => x.txt o ++ txtL r o
end
theorem txt_ks (n : Nd) (o : ByteArray) : n.txt o = if n.tx.size = 0 ∧ n.ks.length = 0 then [60] ++ n.nm.data.toList ++ spN n.ns o ++ [47, 62] else [60] ++ n.nm.data.toList ++ spN n.ns o ++ [62] ++ escL n.tx.data.toList ++ txtL n.ks n.ns ++ ([60, 47] ++ n.nm.data.toList ++ [62]) := by cases n; rw [Nd.txt]; rfl

theorem spN_len (ns o : ByteArray) : (spN ns o).length ≤ 9 + 6 * ns.size := by
  unfold spN
  split
  · simp
  · have h := escL_le ns.data.toList
    have h2 : ns.data.toList.length = ns.size := Array.length_toList
    simp only [List.length_append, spcS, List.length_cons, List.length_nil]
    omega

mutual
theorem txt_len : ∀ (n : Nd) (o : ByteArray), (n.txt o).length ≤ 100 * (n.szN + 1)
  | .mk a b c ks, o => by
    have h1 := spN_len a o
    have h2 := escL_le c.data.toList
    have h3 : c.data.toList.length = c.size := Array.length_toList
    have h4 : b.data.toList.length = b.size := Array.length_toList
    have h5 := txtL_len ks a
    rw [Nd.txt, Nd.szN]
    split
    · simp only [List.length_append, List.length_cons, List.length_nil]; omega
    · simp only [List.length_append, List.length_cons, List.length_nil]; omega
theorem txtL_len : ∀ (ks : List Nd) (o : ByteArray), (txtL ks o).length ≤ 100 * (szL ks + ks.length)
  | [], o => by simp [txtL]
  | x :: r, o => by
    have h1 := txt_len x o
    have h2 := txtL_len r o
    simp only [txtL, szL, List.length_append, List.length_cons]
    omega
end
theorem txtL_snoc : ∀ (ks : List Nd) (k : Nat) (h : k < ks.length) (o : ByteArray), txtL (ks.take (k + 1)) o = txtL (ks.take k) o ++ (ks[k]).txt o
  | x :: r, 0, _, o => by simp [txtL]
  | x :: r, k + 1, h, o => by
    have := txtL_snoc r k (by simpa using h) o
    simp only [List.take_succ_cons, txtL, List.getElem_cons_succ, this, List.append_assoc]
theorem szL_take (ks : List Nd) (k : Nat) : szL (ks.take k) ≤ szL ks := by
  induction ks generalizing k with
  | nil => simp [szL]
  | cons x r ih =>
    cases k with
    | zero => simp [szL]
    | succ k => have := ih k; simp only [List.take_succ_cons, szL]; omega

/-- What NodeText tells. -/
def nodeT (n : Nd) : ByteArray := if nodeB n then bytesOf (n.txt ByteArray.empty) else ByteArray.empty
end Go.Proofs.YtccehdlgpbeijaaGreatDoor
