/-
  Plain facts on bytes, their kinds, and texts of them: no program in sight.
  Plain facts on small names: no program in sight.
  Trees of marks: how many there are, how great they are, which are right.
  Plain facts on quoted texts: no program in sight.
  Plain facts on numbers' digits: no program in sight.
  Plain facts on numbers read of their digits: no program in sight.
  Plain facts on marked texts: escaped, and back: no program in sight.
  Plain facts on marks and texts one behind the other: no program in sight.
  Plain facts on a text without the blanks at its ends: no program in sight.
  A tree read of pieces, as the program reads it.
  What stands in a walk's context and is not to be used by it.
  Rows of pieces that the call owns: one more behind, and what they hold.
-/
import Derived.Lib.ItoaNum
import Derived.Lib.Atoi
import Derived.Lib.IndexMore
import Derived.Below
import Derived.Test.YtccehdlgpbeijaaGreatDoorRows
import Derived.WalkKit
import Derived.WalkSpells
import Derived.WalkLawsBesides
import Derived.Deep.Light
import Derived.Lib.BufferWrite
namespace Go.Proofs.YtccehdlgpbeijaaGreatDoor.M

/-- Whether a byte is of a kind, as the document has it. -/
def isB (c k : Int) : Bool :=
  if k = 0 then decide (32 ≤ c) && decide (c ≤ 126)
  else if k = 1 then (c == 32) || (c == 9)
  else if k = 2 then decide (97 ≤ c) && decide (c ≤ 122)
  else if k = 3 then decide (65 ≤ c) && decide (c ≤ 90)
  else if k = 4 then decide (48 ≤ c) && decide (c ≤ 57)
  else if k = 5 then decide (97 ≤ c) && decide (c ≤ 102)
  else if k = 6 then decide (65 ≤ c) && decide (c ≤ 70)
  else if k = 7 then c == 45
  else false

def anyB (c : Int) (ks : List Int) : Bool := ks.any (isB c)
def allB (l : List UInt8) (ks : List Int) : Bool := l.all fun c => anyB (c.toNat : Int) ks

theorem take_snoc (s : ByteArray) (k : Nat) (h : k < s.size) : s.data.toList.take (k + 1) = s.data.toList.take k ++ [s[k]] := by
  rw [List.take_succ_eq_append_getElem (by simpa using h)]; rfl

theorem take_all (s : ByteArray) (k : Nat) (h : ¬ k < s.size) : s.data.toList.take k = s.data.toList := by
  rw [List.take_of_length_le]
  have : s.data.toList.length = s.size := Array.length_toList
  omega

theorem anyB_snoc (c : Int) (ks : List Int) (k : Nat) (h : k < ks.length) (h0 : anyB c (ks.take k) = false) (h1 : isB c ks[k] = false) : anyB c (ks.take (k + 1)) = false := by
  unfold anyB at *
  rw [List.take_succ_eq_append_getElem h, List.any_append, h0]
  simp [h1]

theorem anyB_of (c : Int) (ks : List Int) (k : Nat) (h : k < ks.length) (h1 : isB c ks[k] = true) : anyB c ks = true := by
  unfold anyB
  rw [List.any_eq_true]
  exact ⟨_, List.getElem_mem h, h1⟩

theorem allB_snoc (s : ByteArray) (ks : List Int) (k : Nat) (h : k < s.size) (h0 : allB (s.data.toList.take k) ks = true) (h2 : (!anyB (s[k].toNat : Int) ks) = false) : allB (s.data.toList.take (k + 1)) ks = true := by
  have h1 : anyB (s[k].toNat : Int) ks = true := by simpa using h2
  rw [take_snoc s k h]
  unfold allB at *
  rw [List.all_append, h0]
  simp [h1]

theorem allB_not (s : ByteArray) (ks : List Int) (k : Nat) (h : k < s.size) (h2 : (!anyB (s[k].toNat : Int) ks) = true) : allB s.data.toList ks = false := by
  have h1 : anyB (s[k].toNat : Int) ks = false := by simpa using h2
  have hm : s[k] ∈ s.data.toList := by
    have e : s.data.toList.length = s.size := Array.length_toList
    have h' : k < s.data.toList.length := by omega
    exact List.getElem_mem h'
  unfold allB
  rw [List.all_eq_false]
  exact ⟨_, hm, by simp [h1]⟩

/-- Whether a number lies between two. -/
def inB (x a b : Int) : Bool := decide (a ≤ x) && decide (x ≤ b)
theorem inB_plain (c : Int) : inB c 32 126 = anyB c [0] := by simp [inB, anyB, isB]
theorem inB_small (c : Int) : inB c 97 122 = isB c 2 := by simp [inB, isB]
theorem inB_large (c : Int) : inB c 65 90 = isB c 3 := by simp [inB, isB]
theorem inB_digit (c : Int) : inB c 48 57 = isB c 4 := by simp [inB, isB]
theorem inB_hexs (c : Int) : inB c 97 102 = isB c 5 := by simp [inB, isB]
theorem inB_hexl (c : Int) : inB c 65 70 = isB c 6 := by simp [inB, isB]
theorem anyB_one (c k : Int) : anyB c [k] = isB c k := by simp [anyB]

theorem set_last (pre t : List UInt8) (n : Nat) (h : pre.length = n + 1) (c : UInt8) : ∃ q : List UInt8, q.length = n ∧ (pre ++ t).set n c = q ++ c :: t := by
  refine ⟨pre.take n, by rw [List.length_take]; omega, ?_⟩
  have e : pre = pre.take n ++ [pre[n]] := by
    conv => lhs; rw [← List.take_append_drop n pre]
    rw [List.drop_eq_getElem_cons (by omega), List.drop_of_length_le (by omega)]
  have e2 : pre ++ t = pre.take n ++ (pre[n] :: t) := by
    conv => lhs; rw [e]
    rw [List.append_assoc]; rfl
  have l2 : (pre.take n).length = n := by rw [List.length_take]; omega
  rw [e2, List.set_append_right _ _ (by omega), l2, Nat.sub_self, List.set_cons_zero]

/-- A large letter as a small one. -/
def lowB (c : UInt8) : UInt8 := if isB (c.toNat : Int) 3 then c + 32 else c
def lowL (l : List UInt8) : List UInt8 := l.map lowB

theorem lowB_yes (c : UInt8) (h : isB (c.toNat : Int) 3 = true) : (lowB c).toNat = c.toNat + 32 := by
  have h' : 65 ≤ c.toNat ∧ c.toNat ≤ 90 := by simp [isB] at h; omega
  unfold lowB
  rw [if_pos h, UInt8.toNat_add]
  have : (32 : UInt8).toNat = 32 := rfl
  omega

theorem lowB_no (c : UInt8) (h : isB (c.toNat : Int) 3 = false) : lowB c = c := by
  unfold lowB
  rw [if_neg (by simp [h])]

theorem isB3 {c : Int} (h : isB c 3 = true) : 65 ≤ c ∧ c ≤ 90 := by simp [isB] at h; omega

theorem lowL_snoc (s : ByteArray) (k : Nat) (h : k < s.size) : lowL (s.data.toList.take (k + 1)) = lowL (s.data.toList.take k) ++ [lowB s[k]] := by
  rw [take_snoc s k h]; simp [lowL]

/-- The first k made small, the rest as it was. -/
def mixL (l : List UInt8) (k : Nat) : List UInt8 := lowL (l.take k) ++ l.drop k
theorem mixL_length (l : List UInt8) (k : Nat) : (mixL l k).length = l.length := by
  simp only [mixL, lowL, List.length_append, List.length_map, List.length_take, List.length_drop]; omega
theorem mixL_zero (l : List UInt8) : mixL l 0 = l := by simp [mixL, lowL]
theorem mixL_all (l : List UInt8) (k : Nat) (h : l.length ≤ k) : mixL l k = lowL l := by
  simp [mixL, List.take_of_length_le h, List.drop_of_length_le h]
theorem mixL_get (l : List UInt8) (k : Nat) (h : k < l.length) (h' : k < (mixL l k).length) : (mixL l k)[k] = l[k] := by
  have e : (lowL (l.take k)).length = k := by simp only [lowL, List.length_map, List.length_take]; omega
  simp only [mixL]
  rw [List.getElem_append_right (by omega)]
  simp only [e, Nat.sub_self, List.getElem_drop, Nat.add_zero]
theorem mixL_succ (l : List UInt8) (k : Nat) (h : k < l.length) : mixL l (k + 1) = (mixL l k).set k (lowB l[k]) := by
  have e : (lowL (l.take k)).length = k := by simp only [lowL, List.length_map, List.length_take]; omega
  simp only [mixL]
  rw [List.set_append_right _ _ (by omega), e, Nat.sub_self, List.drop_eq_getElem_cons h, List.set_cons_zero, List.take_succ_eq_append_getElem h]
  simp only [lowL, List.map_append, List.map_cons, List.map_nil, List.append_assoc, List.singleton_append]

end Go.Proofs.YtccehdlgpbeijaaGreatDoor.M
namespace Go.Proofs.YtccehdlgpbeijaaGreatDoor.M

/-- A small name: a small letter, then small letters, digits and hyphens, at most 20 in all. -/
def smB : List UInt8 → Bool
  | [] => false
  | c :: r => decide ((c :: r).length ≤ 20) && isB (c.toNat : Int) 2 && allB (c :: r) [2, 4, 7]

/-- What the specification asks of the byte at place i. -/
def okAt (i : Nat) (c : Int) : Bool := isB c 2 || (i != 0 && (isB c 4 || c == 45))

theorem anyB_3 (c : Int) : anyB c [2, 4, 7] = (isB c 2 || (isB c 4 || c == 45)) := by
  simp [anyB, isB]

theorem okAt_any {i : Nat} {c : Int} (h : okAt i c = true) : anyB c [2, 4, 7] = true := by
  rw [anyB_3]
  unfold okAt at h
  cases h1 : isB c 2 <;> simp_all

theorem ok1 {k : Nat} {c : Int} (h : isB c 2 = true) : okAt k c = true := by simp [okAt, h]
theorem no2 {k : Nat} {c : Int} (h : ¬ isB c 2 = true) (h1 : k = 0) : okAt k c = false := by simp [okAt, h1]; simpa using h
theorem ok3 {k : Nat} {c : Int} (h1 : ¬ k = 0) (h2 : isB c 4 = true) : okAt k c = true := by simp [okAt, h1, h2]
theorem no4 {k : Nat} {c : Int} (h : ¬ isB c 2 = true) (h1 : ¬ k = 0) (h2 : ¬ isB c 4 = true) (h3 : ((k : Int) == 0) = true ∨ (c != 45) = true) : okAt k c = false := by
  rcases h3 with h3 | h3
  · simp at h3; exact absurd h3 h1
  · simp at h h2 h3; simp [okAt, h, h2, h3]
theorem ok5 {k : Nat} {c : Int} (h1 : ¬ k = 0) (h3 : ((k : Int) == 0) = false ∧ (c != 45) = false) : okAt k c = true := by
  obtain ⟨_, h3⟩ := h3
  simp at h3
  simp [okAt, h1, h3]

theorem smB_notL (l : List UInt8) (k : Nat) (h' : k < l.length) (h1 : okAt k (l[k].toNat : Int) = false) : smB l = false := by
  match l, k, h', h1 with
  | c :: r, 0, h', h1 =>
    have h2 : okAt 0 (c.toNat : Int) = false := h1
    simp [okAt] at h2
    simp [smB, h2]
  | c :: r, k + 1, h', h1 =>
    simp only [List.getElem_cons_succ] at h1
    have h2 : anyB (r[k]'(by simpa using h')).toNat [2, 4, 7] = false := by
      rw [anyB_3]; simpa [okAt] using h1
    have h3 : allB (c :: r) [2, 4, 7] = false := by
      unfold allB
      rw [List.all_eq_false]
      exact ⟨_, List.mem_cons_of_mem _ (List.getElem_mem (by simpa using h')), by simp [h2]⟩
    simp [smB, h3]

theorem smB_not (s : ByteArray) (k : Nat) (h : k < s.size) (h1 : okAt k (s[k].toNat : Int) = false) : smB s.data.toList = false := by
  have e : s.data.toList.length = s.size := Array.length_toList
  exact smB_notL s.data.toList k (by omega) h1

theorem smB_allL (l : List UInt8) (h2 : ∀ i (hi : i < l.length), okAt i (l[i].toNat : Int) = true) : smB l = inB (l.length : Int) 1 20 := by
  match l, h2 with
  | [], _ => simp [smB, inB]
  | c :: r, h2 =>
    have h0 : okAt 0 (c.toNat : Int) = true := h2 0 (by simp)
    have h3 : isB (c.toNat : Int) 2 = true := by simpa [okAt] using h0
    have h4 : allB (c :: r) [2, 4, 7] = true := by
      unfold allB
      rw [List.all_eq_true]
      intro x hx
      obtain ⟨i, hi, rfl⟩ := List.mem_iff_getElem.1 hx
      exact okAt_any (h2 i hi)
    simp only [smB, h3, h4, inB]
    rw [Bool.and_true, Bool.and_true, Bool.eq_iff_iff]
    simp
    omega

theorem smB_all (s : ByteArray) (h : ∀ i (hi : i < s.size), okAt i (s[i].toNat : Int) = true) : smB s.data.toList = inB (s.size : Int) 1 20 := by
  have e : s.data.toList.length = s.size := Array.length_toList
  rw [← e]
  exact smB_allL s.data.toList fun i hi => h i (by omega)

theorem smB_implL (l : List UInt8) (h0 : 0 < l.length) (h1 : l.length ≤ 20) : smB l = (isB (l[0].toNat : Int) 2 && allB l [2, 4, 7]) := by
  match l, h0, h1 with
  | c :: r, h0, h1 =>
    have h1' : r.length + 1 ≤ 20 := by simpa using h1
    show smB (c :: r) = (isB (c.toNat : Int) 2 && allB (c :: r) [2, 4, 7])
    simp [smB, h1']

/-- The program's own way to it. -/
theorem smB_impl (s : ByteArray) (h0 : 0 < s.size) (h1 : s.size ≤ 20) : smB s.data.toList = (isB ((s[0]).toNat : Int) 2 && allB s.data.toList [2, 4, 7]) := by
  have e : s.data.toList.length = s.size := Array.length_toList
  exact smB_implL s.data.toList (by omega) (by omega)

theorem smB_longL (l : List UInt8) (h : l.length < 1 ∨ 20 < l.length) : smB l = false := by
  match l, h with
  | [], _ => rfl
  | c :: r, h =>
    have h' : ¬ r.length + 1 ≤ 20 := by simp at h; omega
    simp [smB, h']

theorem smB_long (s : ByteArray) (h : s.size < 1 ∨ 20 < s.size) : smB s.data.toList = false := by
  have e : s.data.toList.length = s.size := Array.length_toList
  exact smB_longL _ (by omega)

end Go.Proofs.YtccehdlgpbeijaaGreatDoor.M
namespace Go.Proofs.YtccehdlgpbeijaaGreatDoor
open M

inductive Nd where
  | mk (ns nm tx : ByteArray) (ks : List Nd)

def Nd.ns : Nd → ByteArray | .mk a _ _ _ => a
def Nd.nm : Nd → ByteArray | .mk _ a _ _ => a
def Nd.tx : Nd → ByteArray | .mk _ _ a _ => a
def Nd.ks : Nd → List Nd | .mk _ _ _ a => a

mutual
def Nd.cnt : Nd → Nat
  | .mk _ _ _ ks => cntL ks + 1
def cntL : List Nd → Nat
  | [] => 0
  | k :: r => k.cnt + cntL r
end

mutual
def Nd.szN : Nd → Nat
  | .mk a b c ks => a.size + b.size + c.size + (ks.length + szL ks)
def szL : List Nd → Nat
  | [] => 0
  | k :: r => k.szN + szL r
end

mutual
theorem Nd.cnt_le : ∀ n : Nd, n.cnt ≤ n.szN + 1
  | .mk a b c ks => by
    have := cntL_le ks
    unfold Nd.cnt Nd.szN
    omega
theorem cntL_le : ∀ ks : List Nd, cntL ks ≤ ks.length + szL ks
  | [] => by simp [cntL]
  | k :: r => by
    have h1 := k.cnt_le
    have h2 := cntL_le r
    simp only [cntL, szL, List.length_cons]
    omega
end

theorem cntL_mem : ∀ (ks : List Nd) (n : Nd), n ∈ ks → n.cnt ≤ cntL ks
  | k :: r, n, h => by
    rw [cntL]
    rcases List.mem_cons.1 h with rfl | h
    · omega
    · have := cntL_mem r n h; omega
theorem szL_mem : ∀ (ks : List Nd) (n : Nd), n ∈ ks → n.szN ≤ szL ks
  | k :: r, n, h => by
    rw [szL]
    rcases List.mem_cons.1 h with rfl | h
    · omega
    · have := szL_mem r n h; omega
theorem cnt_ks (n : Nd) : n.cnt = cntL n.ks + 1 := by cases n; rfl
theorem szN_ks (n : Nd) : n.szN = n.ns.size + n.nm.size + n.tx.size + (n.ks.length + szL n.ks) := by cases n; rfl
theorem cntL_at (ks : List Nd) (j : Nat) (hj : j < ks.length) : cntL (ks[j]).ks < cntL ks := by
  have h1 := cntL_mem ks _ (List.getElem_mem hj)
  have h2 := cnt_ks ks[j]
  omega
theorem drop_at {α : Type} (l : List α) (k : Nat) (h : k < l.length) : l.drop k = l[k] :: l.drop (k + 1) := List.drop_eq_getElem_cons h

theorem szL_snoc : ∀ (ks : List Nd) (k : Nat) (h : k < ks.length), szL (ks.take (k + 1)) = szL (ks.take k) + (ks[k]).szN
  | x :: r, 0, _ => by simp [szL]
  | x :: r, k + 1, h => by
    have := szL_snoc r k (by simpa using h)
    simp only [List.take_succ_cons, szL, List.getElem_cons_succ]
    omega

/-- The one's own parts. -/
def ownN (n : Nd) : Bool := allB n.ns.data.toList [0] && decide (n.ns.size ≤ 20) && smB n.nm.data.toList && allB n.tx.data.toList [0] && decide (n.tx.size ≤ 60) && (decide (n.tx.size = 0) || decide (n.ks.length = 0))

mutual
/-- How many there are, as the specification counts: d is how deep there may still be. -/
def Nd.cS : Nd → Nat → Nat
  | .mk a b c ks, d => if d = 0 ∨ ownN (.mk a b c ks) = false then 100 else cSL ks (d - 1) 1
def cSL : List Nd → Nat → Nat → Nat
  | [], _, k => k
  | x :: r, d, k => if k ≤ 20 then cSL r d (k + x.cS d) else k
end
mutual
/-- How many there may be behind it, as the program tells. -/
def Nd.iS : Nd → Nat → Nat → Option Nat
  | .mk a b c ks, d, l => if d = 0 ∨ l = 0 ∨ ownN (.mk a b c ks) = false then none else iSL ks (d - 1) (l - 1)
def iSL : List Nd → Nat → Nat → Option Nat
  | [], _, l => some l
  | x :: r, d, l => match x.iS d l with
    | none => none
    | some l' => iSL r d l'
end
theorem cS_ks (n : Nd) (d : Nat) : n.cS d = if d = 0 ∨ ownN n = false then 100 else cSL n.ks (d - 1) 1 := by cases n; rw [Nd.cS]; rfl
theorem iS_ks (n : Nd) (d l : Nat) : n.iS d l = if d = 0 ∨ l = 0 ∨ ownN n = false then none else iSL n.ks (d - 1) (l - 1) := by cases n; rw [Nd.iS]; rfl

theorem cSL_ge : ∀ (r : List Nd) (d k : Nat), k ≤ cSL r d k
  | [], d, k => by simp [cSL]
  | x :: r, d, k => by
    rw [cSL]
    split
    · exact Nat.le_trans (by omega) (cSL_ge r d _)
    · omega

mutual
theorem cS_le : ∀ (n : Nd) (d : Nat), n.cS d ≤ 100 + 20 * d
  | .mk a b c ks, d => by
    rw [Nd.cS]
    split
    · omega
    · have := cSL_le ks (d - 1) 1 (by omega); omega
theorem cSL_le : ∀ (r : List Nd) (d k : Nat), k ≤ 120 + 20 * d → cSL r d k ≤ 120 + 20 * d
  | [], d, k, h => by simpa [cSL] using h
  | x :: r, d, k, h => by
    rw [cSL]
    split
    · have := cS_le x d; exact cSL_le r d _ (by omega)
    · omega
end

mutual
theorem iS_cS : ∀ (n : Nd) (d l : Nat), l ≤ 20 → n.iS d l = if n.cS d ≤ l then some (l - n.cS d) else none
  | .mk a b c ks, d, l, h => by
    rw [Nd.iS, Nd.cS]
    by_cases h1 : d = 0 ∨ ownN (.mk a b c ks) = false
    · rw [if_pos h1, if_pos (by rcases h1 with h1 | h1 <;> simp [h1]), if_neg (by omega)]
    · rw [if_neg h1]
      by_cases h2 : l = 0
      · rw [if_pos (by simp [h2]), if_neg (by have := cSL_ge ks (d - 1) 1; omega)]
      · rw [if_neg (by simp only [not_or] at h1 ⊢; exact ⟨h1.1, h2, h1.2⟩), iSL_cSL ks (d - 1) (l - 1) 1 (by omega)]
        have e : 1 + (l - 1) = l := by omega
        rw [e]
theorem iSL_cSL : ∀ (r : List Nd) (d l k : Nat), k + l ≤ 20 → iSL r d l = if cSL r d k ≤ k + l then some (k + l - cSL r d k) else none
  | [], d, l, k, h => by simp [iSL, cSL]
  | x :: r, d, l, k, h => by
    rw [iSL, cSL, iS_cS x d l (by omega)]
    rw [if_pos (show k ≤ 20 by omega)]
    by_cases h1 : x.cS d ≤ l
    · rw [if_pos h1]
      have e : k + x.cS d + (l - x.cS d) = k + l := by omega
      have := iSL_cSL r d (l - x.cS d) (k + x.cS d) (by omega)
      rw [e] at this
      exact this
    · rw [if_neg h1, if_neg (by have := cSL_ge r d (k + x.cS d); omega)]
end

/-- Whether a tree is right. -/
def nodeB (n : Nd) : Bool := decide (n.cS 5 ≤ 20)
theorem nodeB_iS (n : Nd) : (n.iS 5 20).isSome = nodeB n := by
  rw [iS_cS n 5 20 (by omega)]
  unfold nodeB
  split <;> simp_all

mutual
/-- Whether two trees are the same. -/
def Nd.same : Nd → Nd → Bool
  | .mk a b c ks, n => decide (a = n.ns) && decide (b = n.nm) && decide (c = n.tx) && sameK ks n.ks
def sameK : List Nd → List Nd → Bool
  | [], [] => true
  | x :: r, y :: s => x.same y && sameK r s
  | _, _ => false
end
mutual
theorem same_refl : ∀ n : Nd, n.same n = true
  | .mk a b c ks => by simp [Nd.same, Nd.ns, Nd.nm, Nd.tx, Nd.ks, sameK_refl ks]
theorem sameK_refl : ∀ ks : List Nd, sameK ks ks = true
  | [] => rfl
  | x :: r => by simp [sameK, same_refl x, sameK_refl r]
end
mutual
theorem same_eq : ∀ n m : Nd, n.same m = true → n = m
  | .mk a b c ks, .mk a' b' c' ks', h => by
    simp only [Nd.same, Nd.ns, Nd.nm, Nd.tx, Nd.ks, Bool.and_eq_true] at h
    obtain ⟨⟨⟨h1, h2⟩, h3⟩, h⟩ := h
    rw [of_decide_eq_true h1, of_decide_eq_true h2, of_decide_eq_true h3, sameK_eq ks ks' h]
theorem sameK_eq : ∀ ks ls : List Nd, sameK ks ls = true → ks = ls
  | [], [], _ => rfl
  | x :: r, y :: s, h => by
    simp only [sameK, Bool.and_eq_true] at h
    rw [same_eq x y h.1, sameK_eq r s h.2]
  | [], y :: s, h => by simp [sameK] at h
  | x :: r, [], h => by simp [sameK] at h
end
theorem same_ks (n m : Nd) : n.same m = (decide (n.ns = m.ns) && decide (n.nm = m.nm) && decide (n.tx = m.tx) && sameK n.ks m.ks) := by cases n; rfl
theorem sameK_len : ∀ ks ls : List Nd, ks.length ≠ ls.length → sameK ks ls = false
  | [], [], h => absurd rfl h
  | x :: r, y :: s, h => by simp only [sameK, sameK_len r s (by simpa using h), Bool.and_false]
  | [], y :: s, h => rfl
  | x :: r, [], h => rfl
end Go.Proofs.YtccehdlgpbeijaaGreatDoor
namespace Go.Proofs.YtccehdlgpbeijaaGreatDoor.M

/-- These bytes, as a text. -/
def bytesOf (l : List UInt8) : ByteArray := ⟨l.toArray⟩
theorem bytesOf_append (l m : List UInt8) : bytesOf l ++ bytesOf m = bytesOf (l ++ m) := by
  apply ByteArray.ext
  simp [bytesOf]

theorem bytesOf_size (l : List UInt8) : (bytesOf l).size = l.length := by
  show l.toArray.size = l.length
  simp

/-- A digit of sixteen, a large one. -/
def digL (n : Nat) : UInt8 := if n < 10 then UInt8.ofNat (48 + n) else UInt8.ofNat (55 + n)
theorem digL_lo (n : Nat) (h : n < 10) : (digL n).toNat = 48 + n := by
  unfold digL; rw [if_pos h]; simp; omega
theorem digL_hi (n : Nat) (h : ¬ n < 10) (h' : n < 16) : (digL n).toNat = 55 + n := by
  unfold digL; rw [if_neg h]; simp; omega

/-- Whether a byte stays as it is in a quoted text. -/
def freeB (c : Int) : Bool := ((((((isB c 2 || isB c 3) || isB c 4) || c == 45) || c == 46) || c == 95) || c == 126)
def quoteB (c : UInt8) : List UInt8 := if freeB (c.toNat : Int) then [c] else [37, digL (c.toNat / 16), digL (c.toNat % 16)]
def quoteL (l : List UInt8) : List UInt8 := l.flatMap quoteB

theorem quoteB_yes {c : UInt8} (h : freeB (c.toNat : Int) = true) : quoteB c = [c] := by unfold quoteB; rw [if_pos h]
theorem quoteB_no {c : UInt8} (h : freeB (c.toNat : Int) = false) : quoteB c = [37, digL (c.toNat / 16), digL (c.toNat % 16)] := by unfold quoteB; rw [if_neg (by simp [h])]

theorem quoteL_snoc (s : ByteArray) (k : Nat) (h : k < s.size) : quoteL (s.data.toList.take (k + 1)) = quoteL (s.data.toList.take k) ++ quoteB s[k] := by
  rw [take_snoc s k h]; simp [quoteL]

theorem quoteB_length (c : UInt8) : (quoteB c).length ≤ 3 := by unfold quoteB; split <;> simp
theorem quoteL_le (l : List UInt8) : (quoteL l).length ≤ 3 * l.length := by
  induction l with
  | nil => simp [quoteL]
  | cons c l ih =>
    have := quoteB_length c
    simp only [quoteL, List.flatMap_cons, List.length_append, List.length_cons] at *
    omega

theorem hex_at (n : Nat) (h : n < 16) : (⟨#[48, 49, 50, 51, 52, 53, 54, 55, 56, 57, 65, 66, 67, 68, 69, 70]⟩ : ByteArray)[n]'(by show n < 16; exact h) = digL n := by
  have key : ∀ i : Fin 16, (⟨#[48, 49, 50, 51, 52, 53, 54, 55, 56, 57, 65, 66, 67, 68, 69, 70]⟩ : ByteArray)[i.val]'(by show i.val < 16; exact i.isLt) = digL i.val := by decide
  exact key ⟨n, h⟩

end Go.Proofs.YtccehdlgpbeijaaGreatDoor.M
namespace Go.Proofs.YtccehdlgpbeijaaGreatDoor.M

/-- The digits ahead of the last one. -/
def decAhead (m : Nat) : List UInt8 := if m < 10 then [] else Lib.decDigits (m / 10)
def decLow (m : Nat) : UInt8 := UInt8.ofNat (48 + m % 10)

theorem decDigits_ahead (m : Nat) : Lib.decDigits m = decAhead m ++ [decLow m] := by
  rw [Lib.decDigits]
  unfold decAhead decLow
  by_cases h : m < 10
  · rw [dif_pos h, if_pos h, Nat.mod_eq_of_lt h]; rfl
  · rw [dif_neg h, if_neg h]

theorem decAhead_step (m : Nat) (h : 9 < m) : decAhead m = decAhead (m / 10) ++ [decLow (m / 10)] := by
  rw [← decDigits_ahead]
  unfold decAhead
  rw [if_neg (by omega)]

theorem decAhead_end (m : Nat) (h : ¬ 9 < m) : decAhead m = [] := by
  unfold decAhead
  rw [if_pos (by omega)]

theorem decLow_toNat (m : Nat) : (decLow m).toNat = 48 + m % 10 := by
  unfold decLow
  rw [UInt8.toNat_ofNat']
  omega

/-- A digit to the base 16. -/
def hexCh (d : Nat) : UInt8 := if d < 10 then UInt8.ofNat (48 + d) else UInt8.ofNat (87 + d)
/-- The digits to the base 16, f of them at most. -/
def hexDig : Nat → Nat → List UInt8
  | 0, _ => []
  | f + 1, m => if m < 16 then [hexCh m] else hexDig f (m / 16) ++ [hexCh (m % 16)]
def hexDigits (m : Nat) : List UInt8 := hexDig 16 m
/-- The digits ahead of the last one. -/
def hexAhead (f m : Nat) : List UInt8 := if m < 16 then [] else hexDig f (m / 16)

theorem hexDig_ahead (f m : Nat) : hexDig (f + 1) m = hexAhead f m ++ [hexCh (m % 16)] := by
  unfold hexAhead
  simp only [hexDig]
  by_cases h : m < 16
  · rw [if_pos h, if_pos h, Nat.mod_eq_of_lt h]; rfl
  · rw [if_neg h, if_neg h]

theorem hexAhead_step (f m : Nat) (h : 15 < m) : hexAhead (f + 1) m = hexAhead f (m / 16) ++ [hexCh (m / 16 % 16)] := by
  rw [← hexDig_ahead]
  unfold hexAhead
  rw [if_neg (by omega)]

theorem hexAhead_end (f m : Nat) (h : ¬ 15 < m) : hexAhead f m = [] := by
  unfold hexAhead
  rw [if_pos (by omega)]

theorem hexCh_toNat (d : Nat) (h : d < 16) : (hexCh d).toNat = if d < 10 then 48 + d else 87 + d := by
  unfold hexCh
  split
  · rw [UInt8.toNat_ofNat']; omega
  · rw [UInt8.toNat_ofNat']; omega

end Go.Proofs.YtccehdlgpbeijaaGreatDoor.M
namespace Go.Proofs.YtccehdlgpbeijaaGreatDoor.M

/-- The worth of decimal digits, the first one the greatest, behind a number. -/
def decValF (n : Nat) (l : List UInt8) : Nat := l.foldl (fun n c => n * 10 + (c.toNat - 48)) n
def decVal (l : List UInt8) : Nat := decValF 0 l

theorem decVal_snoc (l : List UInt8) (c : UInt8) : decVal (l ++ [c]) = decVal l * 10 + (c.toNat - 48) := by
  simp [decVal, decValF]

def digs (l : List UInt8) : Bool := allB l [4]

theorem digs_cons (c : UInt8) (r : List UInt8) : digs (c :: r) = true → (48 ≤ c.toNat ∧ c.toNat ≤ 57) ∧ digs r = true := by
  intro h
  have h1 : isB (c.toNat : Int) 4 = true ∧ digs r = true := by simpa [digs, allB, anyB] using h
  refine ⟨?_, h1.2⟩
  have := h1.1; simp [isB] at this; omega

theorem decFrom_val (l : List UInt8) : ∀ n, digs l = true → Lib.decFrom n l = some (decValF n l) := by
  induction l with
  | nil => intro n _; rfl
  | cons c r ih =>
    intro n h
    obtain ⟨h1, h2⟩ := digs_cons c r h
    have hd : Lib.digitVal c = some (c.toNat - 48) := by unfold Lib.digitVal; rw [if_pos h1]
    simp only [Lib.decFrom, hd]
    exact ih _ h2

theorem atoi_val (l : List UInt8) (h : digs l = true) (h0 : 1 ≤ l.length) : Lib.atoi l = some (decVal l : Int) := by
  match l, h, h0 with
  | c :: r, h, _ =>
    obtain ⟨h1, _⟩ := digs_cons c r h
    have e45 : (c == 45) = false := by
      rw [beq_eq_false_iff_ne]; intro e; subst e; exact absurd h1.1 (by decide)
    have e43 : (c == 43) = false := by
      rw [beq_eq_false_iff_ne]; intro e; subst e; exact absurd h1.1 (by decide)
    simp only [Lib.atoi, e45, e43]
    simp [Lib.decNat, decFrom_val _ _ h, decVal]

theorem decVal_lt (l : List UInt8) (h : digs l = true) : decVal l < 10 ^ l.length := by
  have := Lib.decFrom_lt l 0 _ (decFrom_val l 0 h)
  simpa [decVal] using this

theorem pow_le8 {k : Nat} (h : k ≤ 8) : 10 ^ k ≤ 100000000 := by
  have := Nat.pow_le_pow_right (show 0 < 10 by decide) h
  exact this

/-- What ParseNum answers. -/
def parseOk (l : List UInt8) (most : Int) : Prop := 1 ≤ l.length ∧ l.length ≤ 7 ∧ digs l = true ∧ ¬ (1 < l.length ∧ l.head? = some 48) ∧ (decVal l : Int) ≤ most
def parseB (l : List UInt8) (most : Int) : Bool := decide (1 ≤ l.length) && (decide (l.length ≤ 7) && (digs l && (!(decide (1 < l.length) && l.head? == some 48) && decide ((decVal l : Int) ≤ most))))
theorem parseB_iff (l : List UInt8) (most : Int) : parseB l most = true ↔ parseOk l most := by
  simp only [parseB, parseOk, Bool.and_eq_true, decide_eq_true_eq, Bool.not_eq_true', Bool.and_eq_false_iff, decide_eq_false_iff_not]
  constructor
  · rintro ⟨a, b, c, d, e⟩
    refine ⟨a, b, c, ?_, e⟩
    rintro ⟨x, y⟩
    rcases d with d | d
    · exact d x
    · simp [y] at d
  · rintro ⟨a, b, c, d, e⟩
    refine ⟨a, b, c, ?_, e⟩
    by_cases x : 1 < l.length
    · right
      rw [beq_eq_false_iff_ne]
      exact fun y => d ⟨x, y⟩
    · exact .inl x
def parseNum (l : List UInt8) (most : Int) : Int × Bool := if parseB l most then ((decVal l : Int), true) else (0, false)
theorem parseNum_no {l : List UInt8} {most : Int} (h : ¬ parseOk l most) : parseNum l most = (0, false) := if_neg (fun e => h ((parseB_iff l most).1 e))
theorem parseNum_yes {l : List UInt8} {most : Int} (h : parseOk l most) : parseNum l most = ((decVal l : Int), true) := if_pos ((parseB_iff l most).2 h)

theorem digs_snoc (s : ByteArray) (k : Nat) (h : k < s.size) (h0 : digs (s.data.toList.take k) = true) (h2 : isB (s[k].toNat : Int) 4 = true) : digs (s.data.toList.take (k + 1)) = true :=
  allB_snoc s [4] k h h0 (by rw [anyB_one, h2]; rfl)
theorem digs_not (s : ByteArray) (k : Nat) (h : k < s.size) (h2 : isB (s[k].toNat : Int) 4 = false) : digs s.data.toList = false :=
  allB_not s [4] k h (by rw [anyB_one, h2]; rfl)
theorem decVal_step (s : ByteArray) (k : Nat) (h : k < s.size) : decVal (s.data.toList.take (k + 1)) = decVal (s.data.toList.take k) * 10 + (s[k].toNat - 48) := by
  rw [take_snoc s k h, decVal_snoc]
theorem isB4 {c : Int} (h : isB c 4 = true) : 48 ≤ c ∧ c ≤ 57 := by simp [isB] at h; omega
theorem head_get (s : ByteArray) (h : 0 < s.size) : s.data.toList.head? = some s[0] := by
  have e : s.data.toList.length = s.size := Array.length_toList
  rw [List.head?_eq_getElem?, List.getElem?_eq_getElem (by omega)]; rfl
theorem len_list (s : ByteArray) : s.data.toList.length = s.size := Array.length_toList

theorem not_size {s : ByteArray} {most : Int} (h : inB (s.size : Int) 1 7 = false) : ¬ parseOk s.data.toList most := by
  intro hp
  have e := len_list s
  have h1 : 1 ≤ s.size ∧ s.size ≤ 7 := by have := hp.1; have := hp.2.1; omega
  simp [inB] at h
  omega
theorem not_nought {s : ByteArray} {most : Int} (h0 : 0 < s.size) (h1 : 1 < s.size) (hz : (((s[0]).toNat : Int) == 48) = true) : ¬ parseOk s.data.toList most := by
  intro hp
  refine hp.2.2.2.1 ⟨by rw [len_list]; exact h1, ?_⟩
  rw [head_get s h0]
  have : (s[0]).toNat = 48 := by simp at hz; omega
  congr 1
  exact UInt8.toNat_inj.1 this
theorem not_most {l : List UInt8} {most : Int} (h : most < (decVal l : Int)) : ¬ parseOk l most := fun hp => by have := hp.2.2.2.2; omega
theorem not_digs {l : List UInt8} {most : Int} (h : digs l = false) : ¬ parseOk l most := fun hp => by have := hp.2.2.1; rw [h] at this; cases this
theorem is_ok {s : ByteArray} {most : Int} (h0 : 0 < s.size) (h : inB (s.size : Int) 1 7 = true) (hd : digs s.data.toList = true) (hz : 1 < s.size → (((s[0]).toNat : Int) == 48) = false) (hm : ¬ most < (decVal s.data.toList : Int)) : parseOk s.data.toList most := by
  have e := len_list s
  have h1 : 1 ≤ s.size ∧ s.size ≤ 7 := by simp [inB] at h; omega
  refine ⟨by omega, by omega, hd, ?_, by omega⟩
  rintro ⟨h2, h3⟩
  rw [head_get s h0] at h3
  have h4 := hz (by omega)
  have h5 : s[0] = 48 := Option.some.inj h3
  rw [h5] at h4
  simp at h4

end Go.Proofs.YtccehdlgpbeijaaGreatDoor.M
namespace Go.Proofs.YtccehdlgpbeijaaGreatDoor.M

/-- A byte, escaped. -/
def escB (c : UInt8) : List UInt8 :=
  if c = 38 then [38, 97, 109, 112, 59] else if c = 60 then [38, 108, 116, 59] else if c = 62 then [38, 103, 116, 59] else if c = 34 then [38, 113, 117, 111, 116, 59] else [c]
def escL (l : List UInt8) : List UInt8 := l.flatMap escB

theorem escL_snoc (s : ByteArray) (k : Nat) (h : k < s.size) : escL (s.data.toList.take (k + 1)) = escL (s.data.toList.take k) ++ escB s[k] := by
  rw [take_snoc s k h]; simp [escL]
theorem escB_length (c : UInt8) : (escB c).length ≤ 6 := by
  unfold escB; split; · simp
  split; · simp
  split; · simp
  split <;> simp
theorem escL_le (l : List UInt8) : (escL l).length ≤ 6 * l.length := by
  induction l with
  | nil => simp [escL]
  | cons c l ih =>
    have := escB_length c
    simp only [escL, List.flatMap_cons, List.length_append, List.length_cons] at *
    omega
theorem escL_cons (c : UInt8) (l : List UInt8) : escL (c :: l) = escB c ++ escL l := by simp [escL]

/-- What stands ahead of the first such byte; and from it on. -/
def upTo (c : UInt8) (l : List UInt8) : List UInt8 := l.takeWhile (· != c)
def fromB (c : UInt8) (l : List UInt8) : List UInt8 := l.dropWhile (· != c)
theorem fromB_le (c : UInt8) (l : List UInt8) : (fromB c l).length ≤ l.length := by
  induction l with
  | nil => simp [fromB]
  | cons b l ih =>
    simp only [fromB, List.dropWhile_cons] at *
    split
    · simp; omega
    · simp
theorem upTo_from (c : UInt8) (l : List UInt8) : upTo c l ++ fromB c l = l := List.takeWhile_append_dropWhile
theorem upTo_cons_eq (c : UInt8) (l : List UInt8) : upTo c (c :: l) = [] := by simp [upTo]
theorem fromB_cons_eq (c : UInt8) (l : List UInt8) : fromB c (c :: l) = c :: l := by simp [fromB]
theorem upTo_cons_ne {b c : UInt8} (l : List UInt8) (h : b ≠ c) : upTo c (b :: l) = b :: upTo c l := by simp [upTo, h]
theorem fromB_cons_ne {b c : UInt8} (l : List UInt8) (h : b ≠ c) : fromB c (b :: l) = fromB c l := by simp [fromB, h]
theorem fromB_head {c x : UInt8} {l q : List UInt8} (h : fromB c l = x :: q) : x = c := by
  induction l with
  | nil => simp [fromB] at h
  | cons b l ih =>
    by_cases e : b = c
    · subst e; rw [fromB_cons_eq] at h; exact (List.cons.inj h).1.symm
    · rw [fromB_cons_ne l e] at h; exact ih h

/-- The byte that a name stands for. -/
def entL (l : List UInt8) : Option UInt8 :=
  if l = [97, 109, 112] then some 38 else if l = [108, 116] then some 60 else if l = [103, 116] then some 62 else if l = [113, 117, 111, 116] then some 34 else if l = [97, 112, 111, 115] then some 39
  else if l.head? = some 35 then (if (parseNum l.tail 126).2 && decide (32 ≤ (parseNum l.tail 126).1) then some (UInt8.ofNat (decVal l.tail)) else none)
  else none

/-- What these bytes are, not escaped. -/
def unesc : List UInt8 → Option (List UInt8)
  | [] => some []
  | c :: r => if c = 60 then none else if c = 38 then
      (if fromB 59 r = [] then none else
       match entL (upTo 59 r) with
       | some b => (unesc (fromB 59 r).tail).map (b :: ·)
       | none => none)
    else (unesc r).map (c :: ·)
termination_by l => l.length
decreasing_by
  · have := fromB_le 59 r
    simp only [List.length_tail, List.length_cons]
    omega
  · simp

/-- .. as the two answers. -/
def unescR (l : List UInt8) : List UInt8 × Bool := match unesc l with | some x => (x, true) | none => ([], false)

theorem unesc_nil : unesc [] = some [] := by rw [unesc]
theorem unesc_plain {c : UInt8} (r : List UInt8) (h : c ≠ 60) (h2 : c ≠ 38) : unesc (c :: r) = (unesc r).map (c :: ·) := by
  rw [unesc]; simp [h, h2]
theorem unesc_open (r : List UInt8) : unesc (60 :: r) = none := by
  rw [unesc]; simp
theorem unesc_short (r : List UInt8) (h : fromB 59 r = []) : unesc (38 :: r) = none := by
  rw [unesc]; simp [h]
theorem unesc_bad (r : List UInt8) (h : entL (upTo 59 r) = none) : unesc (38 :: r) = none := by
  rw [unesc]; simp [h]
theorem unesc_ent (r q : List UInt8) (x b : UInt8) (h : fromB 59 r = x :: q) (hb : entL (upTo 59 r) = some b) : unesc (38 :: r) = (unesc q).map (b :: ·) := by
  rw [unesc]; simp [h, hb]

/-- What is read so far, and what is left: together all. -/
def UeAt (l rest acc : List UInt8) : Prop := acc.length + rest.length ≤ l.length ∧ unesc l = (unesc rest).map (acc ++ ·)

theorem UeAt.start (l : List UInt8) : UeAt l l [] := ⟨by simp, by simp⟩
theorem UeAt.plain {l r acc : List UInt8} {c : UInt8} (h : UeAt l (c :: r) acc) (h1 : c ≠ 60) (h2 : c ≠ 38) : UeAt l r (acc ++ [c]) := by
  obtain ⟨a, b⟩ := h
  refine ⟨by simp at a ⊢; omega, ?_⟩
  rw [b, unesc_plain r h1 h2, Option.map_map]
  congr 1
  funext x
  simp [Function.comp]
theorem UeAt.ent {l r q acc : List UInt8} {x b : UInt8} (h : UeAt l (38 :: r) acc) (hq : fromB 59 r = x :: q) (hb : entL (upTo 59 r) = some b) : UeAt l q (acc ++ [b]) := by
  obtain ⟨a, e⟩ := h
  have := fromB_le 59 r
  rw [hq] at this
  refine ⟨by simp at a this ⊢; omega, ?_⟩
  rw [e, unesc_ent r q x b hq hb, Option.map_map]
  congr 1
  funext x
  simp [Function.comp]
theorem UeAt.no {l rest acc : List UInt8} (h : UeAt l rest acc) (hn : unesc rest = none) : unescR l = ([], false) := by
  unfold unescR; rw [h.2, hn]; rfl
theorem UeAt.done {l acc : List UInt8} (h : UeAt l [] acc) : unescR l = (acc, true) := by
  unfold unescR; rw [h.2, unesc_nil]; simp

theorem unesc_le (l : List UInt8) : ∀ x, unesc l = some x → x.length ≤ l.length := by
  induction hn : l.length using Nat.strongRecOn generalizing l with
  | _ n ih =>
    subst hn
    intro x hx
    match l, ih, hx with
    | [], _, hx => rw [unesc_nil] at hx; simp at hx; simp [← hx]
    | c :: r, ih, hx =>
      by_cases h60 : c = 60
      · subst h60; rw [unesc_open] at hx; cases hx
      by_cases h38 : c = 38
      · subst h38
        match hf : fromB 59 r with
        | [] => rw [unesc_short r hf] at hx; cases hx
        | y :: q =>
          match he : entL (upTo 59 r) with
          | none => rw [unesc_bad r he] at hx; cases hx
          | some b =>
            rw [unesc_ent r q y b hf he] at hx
            obtain ⟨z, hz, rfl⟩ := Option.map_eq_some_iff.1 hx
            have h1 := fromB_le 59 r
            rw [hf] at h1
            have := ih q.length (by simp at h1 ⊢; omega) q rfl z hz
            simp at h1 ⊢; omega
      · rw [unesc_plain r h60 h38] at hx
        obtain ⟨z, hz, rfl⟩ := Option.map_eq_some_iff.1 hx
        have := ih r.length (by simp) r rfl z hz
        simp; omega

theorem unescR_le (l : List UInt8) : (unescR l).1.length ≤ l.length := by
  unfold unescR
  cases h : unesc l with
  | none => simp
  | some x => exact unesc_le l x h

/-- What is escaped comes back. -/
theorem unesc_escB (c : UInt8) (r : List UInt8) : unesc (escB c ++ r) = (unesc r).map (c :: ·) := by
  unfold escB
  split
  · rename_i h; subst h
    exact unesc_ent _ r 59 38 (by simp [fromB]) (by simp [upTo, entL])
  split
  · rename_i h; subst h
    exact unesc_ent _ r 59 60 (by simp [fromB]) (by simp [upTo, entL])
  split
  · rename_i h; subst h
    exact unesc_ent _ r 59 62 (by simp [fromB]) (by simp [upTo, entL])
  split
  · rename_i h; subst h
    exact unesc_ent _ r 59 34 (by simp [fromB]) (by simp [upTo, entL])
  · exact unesc_plain r (by assumption) (by assumption)

theorem unesc_escL (l : List UInt8) : unesc (escL l) = some l := by
  induction l with
  | nil => exact unesc_nil
  | cons c r ih => rw [escL_cons, unesc_escB, ih]; rfl
theorem unescR_escL (l : List UInt8) : unescR (escL l) = (l, true) := by unfold unescR; rw [unesc_escL]

theorem escB_none (c : UInt8) : ∀ x ∈ escB c, x ≠ 60 ∧ x ≠ 34 ∧ x ≠ 62 := by
  intro x hx
  unfold escB at hx
  split at hx
  · simp at hx; rcases hx with h | h | h | h | h <;> (subst h; decide)
  split at hx
  · simp at hx; rcases hx with h | h | h | h <;> (subst h; decide)
  split at hx
  · simp at hx; rcases hx with h | h | h | h <;> (subst h; decide)
  split at hx
  · simp at hx; rcases hx with h | h | h | h | h | h <;> (subst h; decide)
  · simp at hx; subst hx; exact ⟨by assumption, by assumption, by assumption⟩
theorem escL_none (l : List UInt8) : ∀ x ∈ escL l, x ≠ 60 ∧ x ≠ 34 ∧ x ≠ 62 := by
  intro x hx
  obtain ⟨c, _, hc⟩ := List.mem_flatMap.1 hx
  exact escB_none c x hc

theorem upTo_all {c : UInt8} {l : List UInt8} (h : ∀ x ∈ l, x ≠ c) (r : List UInt8) : upTo c (l ++ c :: r) = l ∧ fromB c (l ++ c :: r) = c :: r := by
  induction l with
  | nil => exact ⟨upTo_cons_eq c r, fromB_cons_eq c r⟩
  | cons b l ih =>
    obtain ⟨i1, i2⟩ := ih (fun x hx => h x (List.mem_cons_of_mem _ hx))
    have hb := h b (List.mem_cons_self ..)
    rw [List.cons_append, upTo_cons_ne _ hb, fromB_cons_ne _ hb, i1, i2]
    exact ⟨rfl, rfl⟩
theorem upTo_none {c : UInt8} {l : List UInt8} (h : ∀ x ∈ l, x ≠ c) : upTo c l = l ∧ fromB c l = [] := by
  induction l with
  | nil => exact ⟨rfl, rfl⟩
  | cons b l ih =>
    obtain ⟨i1, i2⟩ := ih (fun x hx => h x (List.mem_cons_of_mem _ hx))
    have hb := h b (List.mem_cons_self ..)
    rw [upTo_cons_ne _ hb, fromB_cons_ne _ hb, i1, i2]
    exact ⟨rfl, rfl⟩

/-- What the library's Cut and Index at one byte are. -/
theorem indexByte_upTo (l : List UInt8) (c : UInt8) : Lib.indexByte l c = if fromB c l = [] then -1 else ((upTo c l).length : Int) := by
  induction l with
  | nil => rfl
  | cons b l ih =>
    by_cases h : b = c
    · subst h
      rw [fromB_cons_eq, upTo_cons_eq]
      simp [Lib.indexByte]
    · rw [fromB_cons_ne l h, upTo_cons_ne l h]
      have hb : (b == c) = false := by simp [h]
      show (if b == c then 0 else if Lib.indexByte l c == -1 then -1 else Lib.indexByte l c + 1) = _
      rw [hb, ih]
      by_cases h2 : fromB c l = []
      · simp [h2]
      · simp only [h2, if_false]
        rw [if_neg (by simp)]
        simp
theorem cut_one (l : List UInt8) (c : UInt8) : Lib.cut l [c] = (upTo c l, (fromB c l).tail, !(fromB c l).isEmpty) := by
  have hi : Lib.index l [c] = Lib.indexByte l c := Lib.index_one l c
  have e := upTo_from c l
  unfold Lib.cut
  rw [hi, indexByte_upTo]
  cases hf : fromB c l with
  | nil =>
    rw [hf, List.append_nil] at e
    simp [e]
  | cons x q =>
    rw [hf] at e
    clear hf
    generalize upTo c l = p at e ⊢
    subst e
    simp

/-- The numeric ones, as the program asks. -/
theorem parse_more (d : List UInt8) : ((parseNum d 255).2 && decide (32 ≤ (parseNum d 255).1 ∧ (parseNum d 255).1 ≤ 126)) = ((parseNum d 126).2 && decide (32 ≤ (parseNum d 126).1)) := by
  by_cases h : parseOk d 126
  · have h' : parseOk d 255 := ⟨h.1, h.2.1, h.2.2.1, h.2.2.2.1, by have := h.2.2.2.2; omega⟩
    rw [parseNum_yes h, parseNum_yes h']
    have := h.2.2.2.2
    simp; omega
  · by_cases h' : parseOk d 255
    · rw [parseNum_no h, parseNum_yes h']
      have : ¬ (decVal d : Int) ≤ 126 := fun e => h ⟨h'.1, h'.2.1, h'.2.2.1, h'.2.2.2.1, e⟩
      simp; omega
    · rw [parseNum_no h, parseNum_no h']
      rfl
end Go.Proofs.YtccehdlgpbeijaaGreatDoor.M
namespace Go.Proofs.YtccehdlgpbeijaaGreatDoor.M

/-- A piece. -/
structure Pce where
  k : Int
  name : ByteArray
  ns : ByteArray
  has : Bool
  s : ByteArray
deriving DecidableEq

def noB : ByteArray := ⟨#[]⟩
def spcS : List UInt8 := [32, 120, 109, 108, 110, 115, 61, 34]

/-- What a piece's text is. -/
def spcT (p : Pce) : List UInt8 := if p.has then spcS ++ escL p.ns.data.toList ++ [34] else []
def markT (p : Pce) : List UInt8 :=
  if p.k = 1 then [60] ++ p.name.data.toList ++ spcT p ++ [62]
  else if p.k = 2 then [60, 47] ++ p.name.data.toList ++ [62]
  else if p.k = 3 then [60] ++ p.name.data.toList ++ spcT p ++ [47, 62]
  else escL p.s.data.toList

/-- A name ahead, and what is behind it. -/
def nameP (c : UInt8) : Bool := anyB (c.toNat : Int) [2, 4, 7]
def nmL (l : List UInt8) : List UInt8 := l.takeWhile nameP
def nmR (l : List UInt8) : List UInt8 := l.dropWhile nameP

def closeP (n : List UInt8) : Pce := ⟨2, bytesOf n, noB, false, noB⟩
def openP (k : Int) (n : List UInt8) (sp : Bool × List UInt8) : Pce := ⟨k, bytesOf n, bytesOf sp.2, sp.1, noB⟩
def textP (t : List UInt8) : Pce := ⟨4, noB, noB, false, bytesOf t⟩

def closeL (r : List UInt8) : Option (Pce × List UInt8) :=
  if smB (nmL r) && [62].isPrefixOf (nmR r) then some (closeP (nmL r), (nmR r).drop 1) else none
def spcL (r : List UInt8) : Option ((Bool × List UInt8) × List UInt8) :=
  if spcS.isPrefixOf r then
    (if fromB 34 (r.drop 8) = [] then none else
     match unesc (upTo 34 (r.drop 8)) with
     | some ns => if ns.length ≤ 20 then some ((true, ns), (fromB 34 (r.drop 8)).tail) else none
     | none => none)
  else some ((false, []), r)
def endM (n : List UInt8) (sp : Bool × List UInt8) (q : List UInt8) : Option (Pce × List UInt8) :=
  if [47, 62].isPrefixOf q then some (openP 3 n sp, q.drop 2) else if [62].isPrefixOf q then some (openP 1 n sp, q.drop 1) else none
def openL (r : List UInt8) : Option (Pce × List UInt8) :=
  if smB (nmL r) then
    (match spcL (nmR r) with
     | some x => endM (nmL r) x.1 x.2
     | none => none)
  else none
def textL7 (l : List UInt8) : Option (Pce × List UInt8) :=
  match unesc (upTo 60 l) with
  | some t => some (textP t, fromB 60 l)
  | none => none
def markL (l : List UInt8) : Option (Pce × List UInt8) :=
  if [60, 47].isPrefixOf l then closeL (l.drop 2) else if [60].isPrefixOf l then openL (l.drop 1) else textL7 l

theorem nmR_le (l : List UInt8) : (nmR l).length ≤ l.length := by
  induction l with
  | nil => simp [nmR]
  | cons b l ih =>
    simp only [nmR, List.dropWhile_cons] at *
    split
    · simp; omega
    · simp
theorem nm_from (l : List UInt8) : nmL l ++ nmR l = l := List.takeWhile_append_dropWhile
theorem nmL_le (l : List UInt8) : (nmL l).length ≤ l.length := by
  have := congrArg List.length (nm_from l)
  rw [List.length_append] at this
  omega

theorem closeL_le {r q : List UInt8} {p : Pce} (h : closeL r = some (p, q)) : q.length ≤ r.length := by
  unfold closeL at h
  split at h
  · obtain ⟨_, rfl⟩ := Prod.mk.inj (Option.some.inj h)
    have := nmR_le r
    simp; omega
  · cases h
theorem spcL_le {r q : List UInt8} {sp : Bool × List UInt8} (h : spcL r = some (sp, q)) : q.length ≤ r.length ∧ sp.2.length ≤ 20 := by
  unfold spcL at h
  split at h
  · split at h
    · cases h
    · split at h
      · split at h
        · obtain ⟨rfl, rfl⟩ := Prod.mk.inj (Option.some.inj h)
          have := fromB_le 34 (r.drop 8)
          simp at this ⊢
          refine ⟨by omega, by assumption⟩
        · cases h
      · cases h
  · obtain ⟨rfl, rfl⟩ := Prod.mk.inj (Option.some.inj h)
    exact ⟨Nat.le_refl _, Nat.zero_le _⟩
theorem endM_le {n r q : List UInt8} {sp : Bool × List UInt8} {p : Pce} (h : endM n sp r = some (p, q)) : q.length ≤ r.length := by
  unfold endM at h
  split at h
  · obtain ⟨_, rfl⟩ := Prod.mk.inj (Option.some.inj h); simp
  split at h
  · obtain ⟨_, rfl⟩ := Prod.mk.inj (Option.some.inj h); simp
  · cases h
theorem openL_le {r q : List UInt8} {p : Pce} (h : openL r = some (p, q)) : q.length ≤ r.length := by
  unfold openL at h
  split at h
  · split at h
    · rename_i x hx
      have h1 := endM_le h
      have h2 := (spcL_le (sp := x.1) (q := x.2) hx).1
      have h3 := nmR_le r
      omega
    · cases h
  · cases h

theorem pre60 (l : List UInt8) : [60].isPrefixOf l = decide (l.head? = some 60) := by
  cases l with
  | nil => rfl
  | cons c r =>
    simp [List.isPrefixOf]
    rw [Bool.beq_eq_decide_eq]
    by_cases h : c = 60
    · simp [h]
    · simp [h, Ne.symm h]

theorem markL_lt {l q : List UInt8} {p : Pce} (hl : l ≠ []) (h : markL l = some (p, q)) : q.length < l.length := by
  have h0 : 0 < l.length := List.length_pos_iff.2 hl
  unfold markL at h
  split at h
  · have := closeL_le h
    simp at this; omega
  split at h
  · have := openL_le h
    simp at this; omega
  · rename_i h60
    unfold textL7 at h
    split at h
    · obtain ⟨_, rfl⟩ := Prod.mk.inj (Option.some.inj h)
      match l, hl, h60 with
      | c :: r, _, h60 =>
        have hc : c ≠ 60 := fun e => h60 (by rw [pre60]; simp [e])
        rw [fromB_cons_ne r hc]
        have := fromB_le 60 r
        simp; omega
    · cases h

set_option linter.unusedVariables false in
/-- All pieces. -/
def pcsL (l : List UInt8) : Option (List Pce) :=
  if hl : l = [] then some [] else
  match h : markL l with
  | some x => (pcsL x.2).map (x.1 :: ·)
  | none => none
termination_by l.length
decreasing_by exact markL_lt hl h

theorem pcsL_nil : pcsL [] = some [] := by rw [pcsL]; simp
theorem pcsL_none {l : List UInt8} (hl : l ≠ []) (h : markL l = none) : pcsL l = none := by
  rw [pcsL]; simp only [hl, dif_neg, not_false_eq_true]; split <;> simp_all
theorem pcsL_some {l q : List UInt8} {p : Pce} (hl : l ≠ []) (h : markL l = some (p, q)) : pcsL l = (pcsL q).map (p :: ·) := by
  rw [pcsL]; simp only [hl, dif_neg, not_false_eq_true]; split <;> simp_all

/-- What Pieces answers. -/
def pcsR (l : List UInt8) : List Pce × Bool :=
  if allB l [0] then (match pcsL l with | some ps => if ps.length ≤ 60 then (ps, true) else ([], false) | none => ([], false)) else ([], false)

/-- What is read so far, and what is left. -/
def PcAt (l rest : List UInt8) (acc : List Pce) : Prop := rest.length ≤ l.length ∧ acc.length ≤ 60 ∧ pcsL l = (pcsL rest).map (acc ++ ·)

theorem PcAt.start (l : List UInt8) : PcAt l l [] := ⟨Nat.le_refl _, Nat.zero_le _, by simp⟩
theorem PcAt.step {l rest q : List UInt8} {acc : List Pce} {p : Pce} (h : PcAt l rest acc) (hr : rest ≠ []) (hm : markL rest = some (p, q)) (h60 : acc.length < 60) : PcAt l q (acc ++ [p]) := by
  obtain ⟨a, b, c⟩ := h
  have := markL_lt hr hm
  refine ⟨by omega, by simp; omega, ?_⟩
  rw [c, pcsL_some hr hm, Option.map_map]
  congr 1
  funext x
  simp [Function.comp]
theorem PcAt.bad {l rest : List UInt8} {acc : List Pce} (h : PcAt l rest acc) (hr : rest ≠ []) (hm : markL rest = none) : pcsR l = ([], false) := by
  unfold pcsR
  rw [h.2.2, pcsL_none hr hm]
  simp
theorem PcAt.many {l rest : List UInt8} {acc : List Pce} (h : PcAt l rest acc) (hr : rest ≠ []) (h60 : acc.length = 60) : pcsR l = ([], false) := by
  unfold pcsR
  rw [h.2.2]
  cases hm : markL rest with
  | none => rw [pcsL_none hr hm]; simp
  | some x =>
    rw [pcsL_some (p := x.1) (q := x.2) hr hm]
    cases hq : pcsL x.2 with
    | none => simp
    | some ps => simp; omega
theorem PcAt.done {l : List UInt8} {acc : List Pce} (h : PcAt l [] acc) (hp : allB l [0] = true) : pcsR l = (acc, true) := by
  unfold pcsR
  rw [h.2.2, pcsL_nil, if_pos hp]
  simp [h.2.1]
theorem pcsR_not {l : List UInt8} (hp : allB l [0] = false) : pcsR l = ([], false) := by
  unfold pcsR; rw [if_neg (by simp [hp])]

/-- How great what is read is. -/
def pcSize (p : Pce) : Nat := p.name.size + p.ns.size + p.s.size
theorem smB_le {l : List UInt8} (h : smB l = true) : l.length ≤ 20 := by
  match l, h with
  | c :: r, h => simp [smB] at h; simpa using h.1.1
theorem pc_name (p : Pce) : p.name.size ≤ pcSize p ∧ p.ns.size ≤ pcSize p ∧ p.s.size ≤ pcSize p := by unfold pcSize; omega
theorem markL_size {l q : List UInt8} {p : Pce} (h : markL l = some (p, q)) : pcSize p ≤ 40 + l.length := by
  have key : ∀ {r n : List UInt8} {k : Int} {sp : Bool × List UInt8}, smB n = true → sp.2.length ≤ 20 → pcSize (openP k n sp) ≤ 40 := by
    intro r n k sp hn hs
    have := smB_le hn
    simp only [pcSize, openP, bytesOf_size, noB]
    show n.length + sp.2.length + 0 ≤ 40
    omega
  unfold markL at h
  split at h
  · unfold closeL at h
    split at h
    · rename_i hh
      rw [Bool.and_eq_true] at hh
      obtain ⟨rfl, _⟩ := Prod.mk.inj (Option.some.inj h)
      have := smB_le hh.1
      simp only [pcSize, closeP, bytesOf_size, noB]
      show (nmL (l.drop 2)).length + 0 + 0 ≤ _
      omega
    · cases h
  split at h
  · unfold openL at h
    split at h
    · rename_i hn
      split at h
      · rename_i x hx
        have hs := (spcL_le (sp := x.1) (q := x.2) hx).2
        unfold endM at h
        split at h
        · obtain ⟨rfl, _⟩ := Prod.mk.inj (Option.some.inj h)
          have := key (r := []) (k := 3) hn hs; omega
        split at h
        · obtain ⟨rfl, _⟩ := Prod.mk.inj (Option.some.inj h)
          have := key (r := []) (k := 1) hn hs; omega
        · cases h
      · cases h
    · cases h
  · unfold textL7 at h
    split at h
    · rename_i t ht
      obtain ⟨rfl, _⟩ := Prod.mk.inj (Option.some.inj h)
      have h1 := unesc_le _ _ ht
      have h2 := congrArg List.length (upTo_from 60 l)
      rw [List.length_append] at h2
      simp only [pcSize, textP, bytesOf_size, noB]
      show 0 + 0 + t.length ≤ _
      omega
    · cases h
end Go.Proofs.YtccehdlgpbeijaaGreatDoor.M
namespace Go.Proofs.YtccehdlgpbeijaaGreatDoor.M

def bl (c : UInt8) : Bool := isB (c.toNat : Int) 1
def trimL (l : List UInt8) : List UInt8 := ((l.dropWhile bl).reverse.dropWhile bl).reverse

theorem trimL_front (c : UInt8) (r : List UInt8) (h : bl c = true) : trimL (c :: r) = trimL r := by
  simp [trimL, h]

theorem dropWhile_append_single (p : UInt8 → Bool) (l : List UInt8) (c : UInt8) (h : p c = true) : (l ++ [c]).dropWhile p = if l.dropWhile p = [] then [] else l.dropWhile p ++ [c] := by
  induction l with
  | nil => simp [h]
  | cons a r ih =>
    simp only [List.cons_append, List.dropWhile_cons]
    cases p a <;> simp [ih]

theorem trimL_back (l : List UInt8) (c : UInt8) (h : bl c = true) : trimL (l ++ [c]) = trimL l := by
  unfold trimL
  rw [dropWhile_append_single bl l c h]
  by_cases e : l.dropWhile bl = []
  · simp [e]
  · simp [e, h]

theorem dropWhile_head (p : UInt8 → Bool) (c : UInt8) (r : List UInt8) (h : p c = false) : (c :: r).dropWhile p = c :: r := by
  simp [h]

theorem trimL_nil : trimL [] = [] := rfl

theorem trimL_done (l : List UInt8) (h0 : 0 < l.length) (hf : bl l[0] = false) (hb : bl (l[l.length - 1]) = false) : trimL l = l := by
  have e1 : l.dropWhile bl = l := by
    cases l with
    | nil => simp at h0
    | cons c r => exact dropWhile_head bl c r hf
  have e2 : l.reverse.dropWhile bl = l.reverse := by
    have hne : l ≠ [] := by intro e; simp [e] at h0
    have hl : l.getLast hne = l[l.length - 1] := List.getLast_eq_getElem hne
    have e3 : l.reverse = l.getLast hne :: l.dropLast.reverse := by
      conv => lhs; rw [← List.dropLast_concat_getLast hne]
      simp
    rw [e3]
    exact dropWhile_head bl _ _ (by rw [hl]; exact hb)
  rw [trimL, e1, e2, List.reverse_reverse]

/-- A text cut: its bytes from a up to b. -/
def cut (s : ByteArray) (a b : Nat) : List UInt8 := (s.data.toList.take b).drop a

theorem cut_all (s : ByteArray) : cut s 0 s.size = s.data.toList := by
  have e : s.data.toList.length = s.size := Array.length_toList
  unfold cut
  rw [List.drop_zero, List.take_of_length_le (by omega)]

theorem cut_length (s : ByteArray) (a b : Nat) (hb : b ≤ s.size) : (cut s a b).length = b - a := by
  have e : s.data.toList.length = s.size := Array.length_toList
  unfold cut
  rw [List.length_drop, List.length_take]
  omega

theorem cut_get (s : ByteArray) (a b i : Nat) (hb : b ≤ s.size) (hi : a + i < b) : (cut s a b)[i]'(by rw [cut_length s a b hb]; omega) = s[a + i] := by
  simp only [cut, List.getElem_drop, List.getElem_take]
  rfl

theorem cut_front (s : ByteArray) (a b : Nat) (hb : b ≤ s.size) (h : a < b) : cut s a b = s[a] :: cut s (a + 1) b := by
  have e : s.data.toList.length = s.size := Array.length_toList
  unfold cut
  rw [List.drop_eq_getElem_cons (by rw [List.length_take]; omega), List.getElem_take]
  rfl

theorem cut_back (s : ByteArray) (a b : Nat) (hb : b ≤ s.size) (h : a < b) : cut s a b = cut s a (b - 1) ++ [s[b - 1]] := by
  have e : s.data.toList.length = s.size := Array.length_toList
  obtain ⟨c, rfl⟩ : ∃ c, b = c + 1 := ⟨b - 1, by omega⟩
  simp only [Nat.add_sub_cancel]
  unfold cut
  rw [List.take_succ_eq_append_getElem (by omega), List.drop_append_of_le_length (by rw [List.length_take]; omega)]
  rfl

theorem cut_empty (s : ByteArray) (a b : Nat) (h : b ≤ a) : cut s a b = [] := by
  unfold cut
  rw [List.drop_eq_nil_iff, List.length_take]
  omega

theorem cut_trim_front (s : ByteArray) (a b : Nat) (hb : b ≤ s.size) (h : a < b) (hc : bl s[a] = true) : trimL (cut s a b) = trimL (cut s (a + 1) b) := by
  rw [cut_front s a b hb h, trimL_front _ _ hc]

theorem cut_trim_back (s : ByteArray) (a b : Nat) (hb : b ≤ s.size) (h : a < b) (hc : bl s[b - 1] = true) : trimL (cut s a b) = trimL (cut s a (b - 1)) := by
  rw [cut_back s a b hb h, trimL_back _ _ hc]

theorem cut_trim_done (s : ByteArray) (a b : Nat) (hb : b ≤ s.size) (h : a < b) (hf : bl s[a] = false) (hl : bl s[b - 1] = false) : trimL (cut s a b) = cut s a b := by
  have e := cut_length s a b hb
  apply trimL_done
  · rw [cut_get s a b 0 hb (by omega)]; exact hf
  · have := cut_get s a b (b - a - 1) hb (by omega)
    simp only [e]
    rw [this]
    have e2 : a + (b - a - 1) = b - 1 := by omega
    simp only [e2]; exact hl

theorem extract_cut (s : ByteArray) (a b : Nat) : (s.extract a b).data.toList = cut s a b := by
  unfold cut
  rw [ByteArray.data_extract, Array.toList_extract]
  simp [List.extract_eq_take_drop, List.drop_take]

theorem cut_cut (s : ByteArray) (a b c d : Nat) (hb : b ≤ s.size) (hd : a + d ≤ b) : cut (s.extract a b) c d = cut s (a + c) (a + d) := by
  have e : s.data.toList.length = s.size := Array.length_toList
  unfold cut
  rw [extract_cut]
  unfold cut
  apply List.ext_getElem
  · simp only [List.length_drop, List.length_take]; omega
  · intro i h1 h2
    simp only [List.getElem_drop, List.getElem_take, Nat.add_assoc]

theorem anyB_bl (c : UInt8) : anyB (c.toNat : Int) [1] = bl c := by simp [anyB, bl]

theorem size_extract (s : ByteArray) (a b : Nat) (hb : b ≤ s.size) : (s.extract a b).size = b - a := by
  have e : (s.extract a b).data.toList.length = (s.extract a b).size := Array.length_toList
  rw [← e, extract_cut, cut_length s a b hb]

theorem step_front (t : ByteArray) (l : List UInt8) (h0 : 0 < t.size) (hb : bl t[0] = true) (H : trimL t.data.toList = l) : trimL (t.extract 1 t.size).data.toList = l := by
  rw [extract_cut, ← cut_trim_front t 0 t.size (Nat.le_refl _) h0 hb, cut_all, H]

theorem step_back (t : ByteArray) (l : List UInt8) (h0 : 0 < t.size) (hb : bl t[t.size - 1] = true) (H : trimL t.data.toList = l) : trimL (t.extract 0 (t.size - 1)).data.toList = l := by
  rw [extract_cut, ← cut_trim_back t 0 t.size (Nat.le_refl _) h0 hb, cut_all, H]

theorem step_back_head (t : ByteArray) (h0 : 0 < t.size) (hf : bl t[0] = false) (h : 0 < (t.extract 0 (t.size - 1)).size) : bl (t.extract 0 (t.size - 1))[0] = false := by
  have e : (t.extract 0 (t.size - 1))[0] = t[0] := by
    rw [ByteArray.getElem_extract]
  rw [e]; exact hf

theorem step_done (t : ByteArray) (l : List UInt8) (h0 : 0 < t.size) (hf : bl t[0] = false) (hb : bl t[t.size - 1] = false) (H : trimL t.data.toList = l) : t.data.toList = l := by
  rw [← H, ← cut_all t]
  exact (cut_trim_done t 0 t.size (Nat.le_refl _) h0 hf hb).symm

theorem step_none (t : ByteArray) (l : List UInt8) (h0 : ¬ 0 < t.size) (H : trimL t.data.toList = l) : t.data.toList = l := by
  have e : t.data.toList = [] := by rw [← cut_all t]; exact cut_empty _ _ _ (by omega)
  rw [← H, e]; rfl

end Go.Proofs.YtccehdlgpbeijaaGreatDoor.M
namespace Go.Proofs.YtccehdlgpbeijaaGreatDoor
open M

/-- A text of blanks alone. -/
def blankP (p : Pce) : Bool := decide (p.k = 4) && decide (trimL p.s.data.toList = [])
/-- What is left behind one text of blanks. -/
def skipP : List Pce → List Pce
  | [] => []
  | p :: r => if blankP p then r else p :: r
/-- The text that stands alone in its mark, and what is left. -/
def aloneP : List Pce → ByteArray × List Pce
  | p :: q :: r => if p.k = 4 ∧ q.k = 2 then (p.s, q :: r) else (⟨#[]⟩, p :: q :: r)
  | l => (⟨#[]⟩, l)
mutual
/-- One node, and what is left; none where that cannot be read. The number bounds the calls. -/
def rdN : Nat → List Pce → ByteArray → Option (Nd × List Pce)
  | 0, _, _ => none
  | _ + 1, [], _ => none
  | f + 1, p :: r, o =>
    if p.k = 3 then some (.mk (if p.has then p.ns else o) p.name ⟨#[]⟩ [], r)
    else if p.k = 1 then
      match rdK f (skipP (aloneP r).2) (if p.has then p.ns else o) with
      | some (ks, q :: r2) => if q.name = p.name then some (.mk (if p.has then p.ns else o) p.name (aloneP r).1 ks, r2) else none
      | _ => none
    else none
/-- The kids up to what closes, and what is left. -/
def rdK : Nat → List Pce → ByteArray → Option (List Nd × List Pce)
  | 0, _, _ => none
  | _ + 1, [], _ => none
  | f + 1, p :: r, o =>
    if p.k = 2 then some ([], p :: r)
    else match rdN f (p :: r) o with
      | none => none
      | some (n, r1) => match rdK f (skipP r1) o with
        | none => none
        | some (ks, r2) => some (n :: ks, r2)
end
theorem skipP_len (l : List Pce) : (skipP l).length ≤ l.length := by
  cases l with
  | nil => simp [skipP]
  | cons p r => rw [skipP]; split <;> simp
theorem aloneP_len : ∀ l : List Pce, (aloneP l).2.length ≤ l.length
  | [] => by simp [aloneP]
  | [p] => by simp [aloneP]
  | p :: q :: r => by rw [aloneP]; split <;> simp
theorem skipP_mem (l : List Pce) : ∀ x ∈ skipP l, x ∈ l := by
  cases l with
  | nil => intro x hx; simp [skipP] at hx
  | cons p r =>
    intro x hx
    rw [skipP] at hx
    split at hx
    · exact List.mem_cons_of_mem _ hx
    · exact hx
theorem aloneP_mem : ∀ l : List Pce, ∀ x ∈ (aloneP l).2, x ∈ l
  | [] => fun x hx => by simp [aloneP] at hx
  | [p] => fun x hx => by simpa [aloneP] using hx
  | p :: q :: r => fun x hx => by
    rw [aloneP] at hx
    split at hx
    · exact List.mem_cons_of_mem _ hx
    · exact hx
theorem rd_left : ∀ f, (∀ ps o n r, rdN f ps o = some (n, r) → (∀ x ∈ r, x ∈ ps) ∧ r.length < ps.length) ∧ (∀ ps o ks r, rdK f ps o = some (ks, r) → (∀ x ∈ r, x ∈ ps) ∧ r.length ≤ ps.length ∧ r ≠ []) := by
  intro f
  induction f with
  | zero => exact ⟨fun ps o n r h => by simp [rdN] at h, fun ps o ks r h => by simp [rdK] at h⟩
  | succ f ih =>
    constructor
    · intro ps o n r h
      cases ps with
      | nil => simp [rdN] at h
      | cons p t =>
        rw [rdN] at h
        split at h
        · cases h
          exact ⟨fun x hx => List.mem_cons_of_mem _ hx, by simp⟩
        · split at h
          · split at h
            · rename_i ks q r2 hk
              obtain ⟨h1, h2, _⟩ := ih.2 _ _ _ _ hk
              split at h
              · cases h
                refine ⟨fun x hx => List.mem_cons_of_mem _ (aloneP_mem _ _ (skipP_mem _ _ (h1 x (List.mem_cons_of_mem _ hx)))), ?_⟩
                have e1 := skipP_len (aloneP t).2
                have e2 := aloneP_len t
                simp only [List.length_cons] at h2 ⊢
                omega
              · cases h
            · cases h
          · cases h
    · intro ps o ks r h
      cases ps with
      | nil => simp [rdK] at h
      | cons p t =>
        rw [rdK] at h
        split at h
        · cases h
          exact ⟨fun x hx => hx, Nat.le_refl _, by simp⟩
        · split at h
          · cases h
          · rename_i n r1 hn
            obtain ⟨a1, a2⟩ := ih.1 _ _ _ _ hn
            split at h
            · cases h
            · rename_i ks' r2 hk
              cases h
              obtain ⟨b1, b2, b3⟩ := ih.2 _ _ _ _ hk
              have e1 := skipP_len r1
              exact ⟨fun x hx => a1 x (skipP_mem _ _ (b1 x hx)), by omega, b3⟩
/-- What was read ahead, and what is read behind it. -/
def combK (acc : List Nd) : Option (List Nd × List Pce) → Option (List Nd × List Pce)
  | none => none
  | some (ks, r) => some (acc ++ ks, r)
theorem combK_nil (x : Option (List Nd × List Pce)) : combK [] x = x := by
  cases x with
  | none => rfl
  | some y => obtain ⟨a, b⟩ := y; rfl
theorem combK_step (acc : List Nd) (f : Nat) (p : Pce) (r : List Pce) (o : ByteArray) (h : ¬ p.k = 2) : combK acc (rdK (f + 1) (p :: r) o) = match rdN f (p :: r) o with | none => none | some (n, r1) => combK (acc ++ [n]) (rdK f (skipP r1) o) := by
  rw [rdK, if_neg h]
  cases rdN f (p :: r) o with
  | none => rfl
  | some x =>
    obtain ⟨n, r1⟩ := x
    simp only
    cases rdK f (skipP r1) o with
    | none => rfl
    | some y => obtain ⟨ks, r2⟩ := y; simp [combK]
end Go.Proofs.YtccehdlgpbeijaaGreatDoor
namespace Go.Proofs.YtccehdlgpbeijaaGreatDoor

open Go.RowKit
theorem hide {p : Prop} (h : p) : Hid p := h
end Go.Proofs.YtccehdlgpbeijaaGreatDoor
namespace Go.Proofs.YtccehdlgpbeijaaGreatDoor
open Go.RowKit M
set_option linter.unusedVariables false

def pcCells (ps : List Pce) : List Value := ps.flatMap fun p => [.int .i64 p.k, .string p.name, .string p.ns, .bool p.has, .string p.s]
theorem pcCells_length (ps : List Pce) : (pcCells ps).length = ps.length * 5 := by
  induction ps with
  | nil => rfl
  | cons h r ih => simp only [pcCells, List.flatMap_cons, List.length_append, List.length_cons, List.length_nil] at *; omega
theorem pcCells_append (ps ts : List Pce) : pcCells (ps ++ ts) = pcCells ps ++ pcCells ts := by simp [pcCells]
theorem pcCells_at (ps : List Pce) : ∀ j (hj : j < ps.length), (pcCells ps)[j * 5]? = some (.int .i64 ps[j].k) ∧ (pcCells ps)[j * 5 + 1]? = some (.string ps[j].name) ∧ (pcCells ps)[j * 5 + 2]? = some (.string ps[j].ns) ∧ (pcCells ps)[j * 5 + 3]? = some (.bool ps[j].has) ∧ (pcCells ps)[j * 5 + 4]? = some (.string ps[j].s) := by
  induction ps with
  | nil => intro j hj; cases hj
  | cons h r ih =>
    intro j hj
    have e : pcCells (h :: r) = .int .i64 h.k :: .string h.name :: .string h.ns :: .bool h.has :: .string h.s :: pcCells r := rfl
    rw [e]
    cases j with
    | zero => exact ⟨rfl, rfl, rfl, rfl, rfl⟩
    | succ j =>
      have h1 := ih j (by simpa using hj)
      have e1 : (j + 1) * 5 = j * 5 + 1 + 1 + 1 + 1 + 1 := by omega
      have e2 : (j + 1) * 5 + 1 = j * 5 + 1 + 1 + 1 + 1 + 1 + 1 := by omega
      have e3 : (j + 1) * 5 + 2 = j * 5 + 2 + 1 + 1 + 1 + 1 + 1 := by omega
      have e4 : (j + 1) * 5 + 3 = j * 5 + 3 + 1 + 1 + 1 + 1 + 1 := by omega
      have e5 : (j + 1) * 5 + 4 = j * 5 + 4 + 1 + 1 + 1 + 1 + 1 := by omega
      rw [e2, e3, e4, e5, e1]
      simp only [List.getElem?_cons_succ, List.getElem_cons_succ]
      exact h1

theorem infoPc : (Tryz.prog.info? 89).map (fun i => (i.zero, i.size, i.bytes)) = some (some (.agg #[.int .i64 0, .string ByteArray.empty, .string ByteArray.empty, .bool false, .string ByteArray.empty]), 5, 64) := by kernel_rfl

/-- A row of pieces of the call's own, from B on. -/
def OwnP (w : World) (B : Nat) (v : Value) (ps : List Pce) : Prop := w.ownsRow B 89 5 v ps.length (pcCells ps)
theorem OwnP.made (w : World) (B : Nat) (hB : B ≤ w.heap.size) : OwnP (w.alloc (Obj.cells #[] 89)) B (.slice (some ⟨w.heap.size, 0, none⟩) 0 0) [] :=
  ⟨rfl, .inr ⟨w.heap.size, 0, #[], rfl, hB, heap_alloc_new w _, Nat.le_refl _, Nat.zero_le _, rfl, rfl⟩⟩
theorem OwnP.alloc {w : World} {B : Nat} {v : Value} {ps : List Pce} (h : OwnP w B v ps) (o : Obj) : OwnP (w.alloc o) B v ps := World.ownsRow.alloc h o
theorem OwnP.next {w w' : World} {B : Nat} {v : Value} {ps : List Pce} (h : OwnP w B v ps) (hb : Below w.heap.size w w') : OwnP w' B v ps := by
  refine ⟨h.1, ?_⟩
  rcases h.2 with h | ⟨g, cap, cur, e, hB, hh, hr⟩
  · exact .inl h
  · exact .inr ⟨g, cap, cur, e, hB, (hb.block g (Array.getElem?_eq_some_iff.1 hh).1).trans hh, hr⟩
theorem OwnP.base {w : World} {B C : Nat} {v : Value} {ps : List Pce} (h : OwnP w B v ps) (hC : C ≤ B) : OwnP w C v ps := by
  refine ⟨h.1, ?_⟩
  rcases h.2 with h | ⟨g, cap, cur, e, hB, hr⟩
  · exact .inl h
  · exact .inr ⟨g, cap, cur, e, Nat.le_trans hC hB, hr⟩
theorem OwnP.slice {w : World} {B : Nat} {v : Value} {ps : List Pce} (h : OwnP w B v ps) : ∃ a cap, v = .slice a ps.length cap := by
  rcases h.2 with ⟨e, h0⟩ | ⟨g, cap, cur, e, _⟩
  · rw [h0]; exact ⟨_, _, e⟩
  · exact ⟨_, _, e⟩

/-- 'l = append(l, p)'. -/
theorem wp_append_piece {w : World} {ops : Array Oper} {rest : List Oper} {o : Oper} {a : Act} {Q : Exit → Act → World → Prop} (hgd : o.guard = none) (s x : Operand)
    (ho : o.op = .call { callee := .builtin .append, args := #[s, x], argTypes := #[50, 50] })
    (B : Nat) (v : Value) (ps : List Pce) (hs : a.eval s = v) (hown : OwnP w B v ps)
    (N : Nat) (p : Pce) (hx : a.eval x = .slice (some ⟨N, 0, none⟩) 1 1) (hc0 : w.cell? ⟨N, 0, none⟩ = some (.int .i64 p.k)) (hc1 : w.cell? ⟨N, 1, none⟩ = some (.string p.name)) (hc2 : w.cell? ⟨N, 2, none⟩ = some (.string p.ns)) (hc3 : w.cell? ⟨N, 3, none⟩ = some (.bool p.has)) (hc4 : w.cell? ⟨N, 4, none⟩ = some (.string p.s))
    (hlen : ps.length + 1 ≤ 1000000000) (hB : B ≤ w.heap.size)
    (h : ∀ g cap w', OwnP w' B (.slice (some ⟨g, 0, none⟩) (ps.length + 1) cap) (ps ++ [p]) → Below B w w' → w.grownBy w' v.ownBlock → wpList Tryz.prog ops Q rest (a.put o.dst (.slice (some ⟨g, 0, none⟩) (ps.length + 1) cap)) w') : wpList Tryz.prog ops Q (o :: rest) a w := by
  obtain ⟨i0, hi, hz0, hz1, hz2⟩ := info_parts infoPc
  have hlt := World.ownsRow.lt hown
  refine wpList_append_own w hgd s x 50 ho B 89 i0 _ 5 64 Tryz.underlying50 hi hz0 hz1 hz2 rfl (by decide) v ps.length _ hs hown ⟨N, 0, none⟩ 1 1 [.int .i64 p.k, .string p.name, .string p.ns, .bool p.has, .string p.s] hx rfl ?_ ?_ ?_ ?_ hB ?_
  · intro j u hj
    have e : ∀ k, (⟨N, 0, none⟩ : Addr).add k = ⟨N, k, none⟩ := fun k => by unfold Addr.add; split <;> simp_all
    rw [e]
    match j, hj with
    | 0, hj => simp at hj; subst hj; exact hc0
    | 1, hj => simp at hj; subst hj; exact hc1
    | 2, hj => simp at hj; subst hj; exact hc2
    | 3, hj => simp at hj; subst hj; exact hc3
    | 4, hj => simp at hj; subst hj; exact hc4
  · intro u hu
    simp only [List.mem_cons, List.not_mem_nil, or_false] at hu
    rcases hu with rfl | rfl | rfl | rfl | rfl <;> rfl
  · unfold maxLen; omega
  · omega
  · intro v' w' ho' hg _
    obtain ⟨g, cap, rfl⟩ : ∃ g cap, v' = .slice (some ⟨g, 0, none⟩) (ps.length + 1) cap := by
      rcases ho'.2 with ⟨_, h0⟩ | ⟨g, cap, cur, hv, _⟩
      · omega
      · exact ⟨g, cap, hv⟩
    refine h g cap w' ?_ ⟨hg.os, hg.tape, hg.output, hg.size, fun k hk => hg.block k (Nat.lt_of_lt_of_le hk hB) (fun e => by have := (hlt k e.symm).1; omega)⟩ hg
    unfold OwnP
    rw [pcCells_append, List.length_append]
    exact ho'

/-- What a slice of pieces holds, in a block below B. -/
def Pcs (w : World) (B : Nat) (a : Option Addr) (ps : List Pce) : Prop :=
  0 < ps.length → ∃ b o, a = some ⟨b, o, none⟩ ∧ b < B ∧ ∀ j (hj : j < ps.length), w.cell? ⟨b, o + j * 5, none⟩ = some (.int .i64 ps[j].k) ∧ w.cell? ⟨b, o + j * 5 + 1, none⟩ = some (.string ps[j].name) ∧ w.cell? ⟨b, o + j * 5 + 2, none⟩ = some (.string ps[j].ns) ∧ w.cell? ⟨b, o + j * 5 + 3, none⟩ = some (.bool ps[j].has) ∧ w.cell? ⟨b, o + j * 5 + 4, none⟩ = some (.string ps[j].s)
theorem Pcs.below {w w' : World} {B C : Nat} {a : Option Addr} {ps : List Pce} (h : Pcs w B a ps) (hb : Below C w w') (hB : B ≤ C) : Pcs w' B a ps := fun h0 => by
  obtain ⟨b, o, e, hbB, hc⟩ := h h0
  have k := fun i => hb.cell (p := ⟨b, i, none⟩) (Nat.lt_of_lt_of_le hbB hB)
  exact ⟨b, o, e, hbB, fun j hj => ⟨(k _).trans (hc j hj).1, (k _).trans (hc j hj).2.1, (k _).trans (hc j hj).2.2.1, (k _).trans (hc j hj).2.2.2.1, (k _).trans (hc j hj).2.2.2.2⟩⟩
theorem Pcs.mono {w : World} {B C : Nat} {a : Option Addr} {ps : List Pce} (h : Pcs w B a ps) (hB : B ≤ C) : Pcs w C a ps := fun h0 => by
  obtain ⟨b, o, e, hbB, hc⟩ := h h0
  exact ⟨b, o, e, Nat.lt_of_lt_of_le hbB hB, hc⟩
theorem Pcs.next {w w' : World} {a : Option Addr} {ps : List Pce} (h : Pcs w w.heap.size a ps) (hb : Below w.heap.size w w') : Pcs w' w'.heap.size a ps := (h.below hb (Nat.le_refl _)).mono hb.size
theorem OwnP.pcs {w : World} {B : Nat} {v : Value} {ps : List Pce} (h : OwnP w B v ps) : ∃ a c, v = .slice a ps.length c ∧ Pcs w w.heap.size a ps := by
  have h' := h
  rcases h.2 with ⟨e, h0⟩ | ⟨g, cap, cur, e, hB, hh, h1, h2, h3, h4⟩
  · have : ps = [] := List.length_eq_zero_iff.1 h0
    subst this
    exact ⟨none, 0, e, fun h => absurd h (Nat.lt_irrefl _)⟩
  · subst e
    refine ⟨_, _, rfl, fun _ => ⟨g, 0, rfl, (Array.getElem?_eq_some_iff.1 hh).1, fun j hj => ?_⟩⟩
    have hx := pcCells_at ps j hj
    have hl := pcCells_length ps
    have hown : w.ownsRow B 89 5 (.slice (some ⟨g, 0, none⟩) ps.length cap) ps.length (pcCells ps) := h'
    rw [Nat.zero_add]
    refine ⟨?_, ?_, ?_, ?_, ?_⟩
    · rw [hown.cellAt (j * 5) (by omega)]; exact hx.1
    · rw [hown.cellAt (j * 5 + 1) (by omega)]; exact hx.2.1
    · rw [hown.cellAt (j * 5 + 2) (by omega)]; exact hx.2.2.1
    · rw [hown.cellAt (j * 5 + 3) (by omega)]; exact hx.2.2.2.1
    · rw [hown.cellAt (j * 5 + 4) (by omega)]; exact hx.2.2.2.2
end Go.Proofs.YtccehdlgpbeijaaGreatDoor
