/-
  Plain facts on the bytes of a request: no program in sight.
-/
import Derived.Test.YtkhnkockdfmkgaaGreatDoorMathReq
import Derived.Test.YtkhnkockdfmkgaaGreatDoorMathQuote
import Derived.Lib.ItoaNum
namespace Go.Proofs.YtkhnkockdfmkgaaGreatDoor.M

def crlf : List UInt8 := [13, 10]
def proto : List UInt8 := [72, 84, 84, 80, 47, 49, 46, 49]
def lenTag : List UInt8 := [99, 111, 110, 116, 101, 110, 116, 45, 108, 101, 110, 103, 116, 104, 58, 32]
/-- The line of a head, and of all heads. -/
def hdTxt (h : Hd) : List UInt8 := h.1.data.toList ++ ([58, 32] ++ (h.2.data.toList ++ crlf))
def hdsTxt (hs : List Hd) : List UInt8 := hs.flatMap hdTxt
/-- The first line. -/
def topTxt (r : Rq) : List UInt8 := r.m.data.toList ++ ([32] ++ (r.p.data.toList ++ ([32] ++ (proto ++ crlf))))
/-- What stands ahead of the body, with this line on it. -/
def frontL (r : Rq) (line : List UInt8) : List UInt8 := topTxt r ++ (hdsTxt r.hs ++ (line ++ crlf))
def lenLine (n : Nat) : List UInt8 := lenTag ++ (Lib.decDigits n ++ crlf)
def bodyLine (b : ByteArray) : List UInt8 := if b.size = 0 then [] else lenLine b.size
def put0 (r : Rq) (line body : List UInt8) : List UInt8 := if reqB r = true ∧ (frontL r line).length ≤ 400 then frontL r line ++ body else []
/-- The bytes of a request. -/
def putL (r : Rq) : List UInt8 := put0 r (bodyLine r.b) r.b.data.toList

theorem hdsTxt_snoc (hs : List Hd) (k : Nat) (h : k < hs.length) : hdsTxt (hs.take (k + 1)) = hdsTxt (hs.take k) ++ hdTxt hs[k] := by
  unfold hdsTxt
  rw [List.take_succ_eq_append_getElem h, List.flatMap_append]
  simp only [List.flatMap_cons, List.flatMap_nil, List.append_nil]

theorem hdTxt_len (h : Hd) : (hdTxt h).length = szH h + 4 := by
  have e1 : h.1.data.toList.length = h.1.size := Array.length_toList
  have e2 : h.2.data.toList.length = h.2.size := Array.length_toList
  simp only [hdTxt, crlf, szH, List.length_append, List.length_cons, List.length_nil]
  omega
theorem hdsTxt_len (hs : List Hd) : (hdsTxt hs).length = sumH hs + 4 * hs.length := by
  induction hs with
  | nil => rfl
  | cons h r ih =>
    have := hdTxt_len h
    simp only [hdsTxt, sumH, List.flatMap_cons, List.length_append, List.map_cons, List.sum_cons, List.length_cons] at *
    omega

theorem sumH_take (hs : List Hd) (k : Nat) : sumH (hs.take k) ≤ sumH hs := by
  have e : sumH hs = sumH (hs.take k) + sumH (hs.drop k) := by
    unfold sumH
    rw [← List.sum_append, ← List.map_append, List.take_append_drop]
  omega

theorem bytes_app (a b : ByteArray) : a ++ b = bytesOf (a.data.toList ++ b.data.toList) := by
  apply ByteArray.ext
  simp [bytesOf]
theorem bytesOf_list (l : List UInt8) : (bytesOf l).data.toList = l := rfl
end Go.Proofs.YtkhnkockdfmkgaaGreatDoor.M
