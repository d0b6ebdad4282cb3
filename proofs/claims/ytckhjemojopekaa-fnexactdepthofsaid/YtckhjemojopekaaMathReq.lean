/-
  Plain facts on requests: which are right, and their heads: no program in sight.
-/
import Derived.Test.YtckhjemojopekaaMathTrim
import Derived.Test.YtckhjemojopekaaMathSmall
import Derived.Lib.Bytealg
namespace Go.Proofs.Ytckhjemojopekaa.M

/-- A head: its name, its value. -/
abbrev Hd := ByteArray × ByteArray
/-- A request. -/
structure Rq where
  m : ByteArray
  p : ByteArray
  hs : List Hd
  b : ByteArray
deriving DecidableEq

def lenName : ByteArray := ⟨#[99, 111, 110, 116, 101, 110, 116, 45, 108, 101, 110, 103, 116, 104]⟩
def codName : ByteArray := ⟨#[116, 114, 97, 110, 115, 102, 101, 114, 45, 101, 110, 99, 111, 100, 105, 110, 103]⟩

def methB (s : ByteArray) : Bool := allB s.data.toList [3] && inB s.size 1 9
def tgtB (l : List UInt8) : Bool := l.all fun c => inB (c.toNat : Int) 33 126
def targB (s : ByteArray) : Bool := tgtB s.data.toList && inB s.size 1 80
def valB (s : ByteArray) : Bool := decide (s.size ≤ 60) && (allB s.data.toList [0] && decide (trimL s.data.toList = s.data.toList))
def hdB (h : Hd) : Bool := smB h.1.data.toList && valB h.2
def hdFree (h : Hd) : Bool := hdB h && (!decide (h.1 = lenName) && !decide (h.1 = codName))
def hdsB (hs : List Hd) : Bool := hs.all hdFree && decide (hs.length ≤ 8)
def reqB (r : Rq) : Bool := methB r.m && (targB r.p && (hdsB r.hs && decide (r.b.size ≤ 200)))

theorem tgtB_snoc (s : ByteArray) (k : Nat) (h : k < s.size) (h0 : tgtB (s.data.toList.take k) = true) (h1 : inB (s[k].toNat : Int) 33 126 = true) : tgtB (s.data.toList.take (k + 1)) = true := by
  rw [take_snoc s k h]
  unfold tgtB at *
  rw [List.all_append, h0]
  simp [h1]
theorem tgtB_not (s : ByteArray) (k : Nat) (h : k < s.size) (h1 : inB (s[k].toNat : Int) 33 126 = false) : tgtB s.data.toList = false := by
  have hm : s[k] ∈ s.data.toList := by
    have e : s.data.toList.length = s.size := Array.length_toList
    have h' : k < s.data.toList.length := by omega
    exact List.getElem_mem h'
  unfold tgtB
  rw [List.all_eq_false]
  exact ⟨_, hm, by simp [h1]⟩

theorem indexByte_nonneg (l : List UInt8) (c : UInt8) : decide (0 ≤ Lib.indexByte l c) = l.contains c := by
  induction l with
  | nil => rfl
  | cons b l ih =>
    have hge := Lib.indexByte_ge l c
    have hc : (b == c) = (c == b) := by rw [Bool.beq_comm]
    simp only [List.contains_cons]
    rw [← ih]
    have e : Lib.indexByte (b :: l) c = if b == c then 0 else if Lib.indexByte l c == -1 then -1 else Lib.indexByte l c + 1 := rfl
    rw [e, hc]
    cases hb : (c == b)
    · by_cases h1 : Lib.indexByte l c = -1
      · rw [h1]; rfl
      · have h2 : (Lib.indexByte l c == -1) = false := by rw [beq_eq_false_iff_ne]; exact h1
        rw [h2, Bool.eq_iff_iff]
        simp only [Bool.false_eq_true, if_false, Bool.false_or, decide_eq_true_eq]
        omega
    · simp

/-- Plain without a blank: what a target is made of. -/
theorem tgt_plain (l : List UInt8) : (allB l [0] && !l.contains 32) = tgtB l := by
  induction l with
  | nil => rfl
  | cons c r ih =>
    have e1 : allB (c :: r) [0] = (anyB (c.toNat : Int) [0] && allB r [0]) := rfl
    have e2 : tgtB (c :: r) = (inB (c.toNat : Int) 33 126 && tgtB r) := rfl
    rw [e1, e2, ← ih, List.contains_cons]
    have h : (anyB (c.toNat : Int) [0] && !((32 : UInt8) == c)) = inB (c.toNat : Int) 33 126 := by
      by_cases hc : c = 32
      · subst hc; decide
      · have h32 : ¬ c.toNat = 32 := fun e => hc (UInt8.toNat_inj.1 (by rw [e]; rfl))
        have hb : ((32 : UInt8) == c) = false := by rw [beq_eq_false_iff_ne]; exact fun e => hc e.symm
        rw [hb]
        rw [Bool.eq_iff_iff]
        simp [anyB, isB, inB]
        omega
    rw [← h]
    cases anyB (c.toNat : Int) [0] <;> cases ((32 : UInt8) == c) <;> cases allB r [0] <;> simp

theorem hdsB_snoc (hs : List Hd) (k : Nat) (h : k < hs.length) (h0 : (hs.take k).all hdFree = true) (h1 : hdFree hs[k] = true) : (hs.take (k + 1)).all hdFree = true := by
  rw [List.take_succ_eq_append_getElem h, List.all_append, h0]
  simp [h1]
theorem hdsB_not (hs : List Hd) (k : Nat) (h : k < hs.length) (h1 : hdFree hs[k] = false) : hdsB hs = false := by
  have : hs.all hdFree = false := by
    rw [List.all_eq_false]
    exact ⟨_, List.getElem_mem h, by simp [h1]⟩
  simp [hdsB, this]
theorem hdsB_all (hs : List Hd) (k : Nat) (h : ¬ k < hs.length) (h0 : (hs.take k).all hdFree = true) : hdsB hs = decide (hs.length ≤ 8) := by
  rw [List.take_of_length_le (by omega)] at h0
  simp [hdsB, h0]
theorem hdsB_long (hs : List Hd) (h : ¬ hs.length ≤ 8) : hdsB hs = false := by simp [hdsB, h]

/-- The first of this name. -/
def hdOf : List Hd → ByteArray → ByteArray × Bool
  | [], _ => (ByteArray.empty, false)
  | h :: r, n => if h.1 = n then (h.2, true) else hdOf r n

theorem hdOf_at (hs : List Hd) (k : Nat) (hk : k < hs.length) (n : ByteArray) (h0 : hdOf hs n = hdOf (hs.drop k) n) (h : hs[k].1 = n) : hdOf hs n = (hs[k].2, true) := by
  rw [h0, List.drop_eq_getElem_cons hk, hdOf, if_pos h]
theorem hdOf_next (hs : List Hd) (k : Nat) (hk : k < hs.length) (n : ByteArray) (h0 : hdOf hs n = hdOf (hs.drop k) n) (h : ¬ hs[k].1 = n) : hdOf hs n = hdOf (hs.drop (k + 1)) n := by
  rw [h0, List.drop_eq_getElem_cons hk, hdOf, if_neg h]
theorem hdOf_end (hs : List Hd) (k : Nat) (hk : ¬ k < hs.length) (n : ByteArray) (h0 : hdOf hs n = hdOf (hs.drop k) n) : hdOf hs n = (ByteArray.empty, false) := by
  rw [h0, List.drop_of_length_le (by omega), hdOf]

/-- How much a head has, and all of them. -/
def szH (h : Hd) : Nat := h.1.size + h.2.size
def sumH (hs : List Hd) : Nat := (hs.map szH).sum
theorem sumH_snoc (hs : List Hd) (k : Nat) (hk : k < hs.length) : sumH (hs.take (k + 1)) = sumH (hs.take k) + szH hs[k] := by
  unfold sumH
  rw [List.take_succ_eq_append_getElem hk, List.map_append, List.sum_append]
  simp only [List.map_cons, List.map_nil, List.sum_cons, List.sum_nil, Nat.add_zero]
theorem sumH_mem (hs : List Hd) (h : Hd) (hm : h ∈ hs) : h.1.size ≤ sumH hs ∧ h.2.size ≤ sumH hs := by
  induction hs with
  | nil => cases hm
  | cons x l ih =>
    simp only [sumH, List.map_cons, List.sum_cons, szH] at *
    rcases List.mem_cons.1 hm with rfl | hm
    · omega
    · have := ih hm; omega

theorem take_sameH {ss tt : List Hd} (k : Nat) (h1 : k < ss.length) (h2 : k < tt.length) (h0 : ss.take k = tt.take k) (h : ss[k] = tt[k]) : ss.take (k + 1) = tt.take (k + 1) := by
  rw [List.take_succ_eq_append_getElem h1, List.take_succ_eq_append_getElem h2, h0, h]
def sameH (ss tt : List Hd) : Bool := decide (ss = tt)
theorem sameH_refl (ss : List Hd) : sameH ss ss = true := by simp [sameH]
theorem sameH_len {ss tt : List Hd} (h : ¬ ss.length = tt.length) : sameH ss tt = false := by
  simp only [sameH, decide_eq_false_iff_not]; intro e; exact h (by rw [e])
theorem sameH_not {ss tt : List Hd} (k : Nat) (h1 : k < ss.length) (h2 : k < tt.length) (h : ¬ ss[k] = tt[k]) : sameH ss tt = false := by
  simp only [sameH, decide_eq_false_iff_not]; intro e; subst e; exact h rfl
theorem sameH_all {ss tt : List Hd} (hl : ss.length = tt.length) (k : Nat) (hk : ¬ k < ss.length) (h : ss.take k = tt.take k) : sameH ss tt = true := by
  rw [List.take_of_length_le (by omega), List.take_of_length_le (by omega)] at h
  simp [sameH, h]
/-- Whether two requests are the same. -/
def sameR (a b : Rq) : Bool := decide (a.m = b.m) && (decide (a.p = b.p) && (sameH a.hs b.hs && decide (a.b = b.b)))
theorem sameR_iff (a b : Rq) : sameR a b = true ↔ a = b := by
  cases a; cases b
  simp [sameR, sameH]
theorem sameR_refl (a : Rq) : sameR a a = true := (sameR_iff a a).2 rfl
end Go.Proofs.Ytckhjemojopekaa.M
