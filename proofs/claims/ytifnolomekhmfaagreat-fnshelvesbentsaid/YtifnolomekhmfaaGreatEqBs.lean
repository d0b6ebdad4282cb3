/-
  Plain facts on bytes, their kinds, and texts of them: no program in sight.
  Plain facts on small names: no program in sight.
  Which lists of what is known are right: no program in sight.
  What is known by its space and its name, and how sets turn it: no program in sight.
  Slices of sets: what they hold, and that it stays.
  Two answers that are the same.
  What the specification's l1In does; a byte as an int.
  What the specification's own Plain does.
  What the specification's l1Digit does.
  What l1Small and SmallName (the specification's) do.
  What spec.l10Prop and spec.l10LessProp do.
  Texts held against one another.
-/
import Derived.Test.YtifnolomekhmfaaGreatMathOrder
import Derived.Test.YtifnolomekhmfaaGreatRows
import Derived.WalkKit
import Derived.WalkSpells
import Derived.WalkLawsBesides
import Derived.Deep.Light
namespace Go.Proofs.YtifnolomekhmfaaGreat.M

/-- Whether a byte is of a kind, as the document has it. -/
def isB (c k : Int) : Bool :=
  if k = 0 then decide (32 ≤ c) && decide (c ≤ 126)
  else if k = 1 then (c == 32) || (c == 9)
  else if k = 2 then decide (97 ≤ c) && decide (c ≤ 122)
  else if k = 3 then decide (65 ≤ c) && decide (c ≤ 90)
  else if k = 4 then decide (48 ≤ c) && decide (c ≤ 57)
  else if k = 5 then decide (97 ≤ c) && decide (c ≤ 102)
  else if k = 6 then decide (65 ≤ c) && decide (c ≤ 70)
  else if k = 7 then c == 45
  else false

def anyB (c : Int) (ks : List Int) : Bool := ks.any (isB c)
def allB (l : List UInt8) (ks : List Int) : Bool := l.all fun c => anyB (c.toNat : Int) ks

theorem take_snoc (s : ByteArray) (k : Nat) (h : k < s.size) : s.data.toList.take (k + 1) = s.data.toList.take k ++ [s[k]] := by
  rw [List.take_succ_eq_append_getElem (by simpa using h)]; rfl

theorem take_all (s : ByteArray) (k : Nat) (h : ¬ k < s.size) : s.data.toList.take k = s.data.toList := by
  rw [List.take_of_length_le]
  have : s.data.toList.length = s.size := Array.length_toList
  omega

theorem anyB_snoc (c : Int) (ks : List Int) (k : Nat) (h : k < ks.length) (h0 : anyB c (ks.take k) = false) (h1 : isB c ks[k] = false) : anyB c (ks.take (k + 1)) = false := by
  unfold anyB at *
  rw [List.take_succ_eq_append_getElem h, List.any_append, h0]
  simp [h1]

theorem anyB_of (c : Int) (ks : List Int) (k : Nat) (h : k < ks.length) (h1 : isB c ks[k] = true) : anyB c ks = true := by
  unfold anyB
  rw [List.any_eq_true]
  exact ⟨_, List.getElem_mem h, h1⟩

theorem allB_snoc (s : ByteArray) (ks : List Int) (k : Nat) (h : k < s.size) (h0 : allB (s.data.toList.take k) ks = true) (h2 : (!anyB (s[k].toNat : Int) ks) = false) : allB (s.data.toList.take (k + 1)) ks = true := by
  have h1 : anyB (s[k].toNat : Int) ks = true := by simpa using h2
  rw [take_snoc s k h]
  unfold allB at *
  rw [List.all_append, h0]
  simp [h1]

theorem allB_not (s : ByteArray) (ks : List Int) (k : Nat) (h : k < s.size) (h2 : (!anyB (s[k].toNat : Int) ks) = true) : allB s.data.toList ks = false := by
  have h1 : anyB (s[k].toNat : Int) ks = false := by simpa using h2
  have hm : s[k] ∈ s.data.toList := by
    have e : s.data.toList.length = s.size := Array.length_toList
    have h' : k < s.data.toList.length := by omega
    exact List.getElem_mem h'
  unfold allB
  rw [List.all_eq_false]
  exact ⟨_, hm, by simp [h1]⟩

/-- Whether a number lies between two. -/
def inB (x a b : Int) : Bool := decide (a ≤ x) && decide (x ≤ b)
theorem inB_plain (c : Int) : inB c 32 126 = anyB c [0] := by simp [inB, anyB, isB]
theorem inB_small (c : Int) : inB c 97 122 = isB c 2 := by simp [inB, isB]
theorem inB_large (c : Int) : inB c 65 90 = isB c 3 := by simp [inB, isB]
theorem inB_digit (c : Int) : inB c 48 57 = isB c 4 := by simp [inB, isB]
theorem inB_hexs (c : Int) : inB c 97 102 = isB c 5 := by simp [inB, isB]
theorem inB_hexl (c : Int) : inB c 65 70 = isB c 6 := by simp [inB, isB]
theorem anyB_one (c k : Int) : anyB c [k] = isB c k := by simp [anyB]

theorem set_last (pre t : List UInt8) (n : Nat) (h : pre.length = n + 1) (c : UInt8) : ∃ q : List UInt8, q.length = n ∧ (pre ++ t).set n c = q ++ c :: t := by
  refine ⟨pre.take n, by rw [List.length_take]; omega, ?_⟩
  have e : pre = pre.take n ++ [pre[n]] := by
    conv => lhs; rw [← List.take_append_drop n pre]
    rw [List.drop_eq_getElem_cons (by omega), List.drop_of_length_le (by omega)]
  have e2 : pre ++ t = pre.take n ++ (pre[n] :: t) := by
    conv => lhs; rw [e]
    rw [List.append_assoc]; rfl
  have l2 : (pre.take n).length = n := by rw [List.length_take]; omega
  rw [e2, List.set_append_right _ _ (by omega), l2, Nat.sub_self, List.set_cons_zero]

/-- A large letter as a small one. -/
def lowB (c : UInt8) : UInt8 := if isB (c.toNat : Int) 3 then c + 32 else c
def lowL (l : List UInt8) : List UInt8 := l.map lowB

theorem lowB_yes (c : UInt8) (h : isB (c.toNat : Int) 3 = true) : (lowB c).toNat = c.toNat + 32 := by
  have h' : 65 ≤ c.toNat ∧ c.toNat ≤ 90 := by simp [isB] at h; omega
  unfold lowB
  rw [if_pos h, UInt8.toNat_add]
  have : (32 : UInt8).toNat = 32 := rfl
  omega

theorem lowB_no (c : UInt8) (h : isB (c.toNat : Int) 3 = false) : lowB c = c := by
  unfold lowB
  rw [if_neg (by simp [h])]

theorem isB3 {c : Int} (h : isB c 3 = true) : 65 ≤ c ∧ c ≤ 90 := by simp [isB] at h; omega

theorem lowL_snoc (s : ByteArray) (k : Nat) (h : k < s.size) : lowL (s.data.toList.take (k + 1)) = lowL (s.data.toList.take k) ++ [lowB s[k]] := by
  rw [take_snoc s k h]; simp [lowL]

/-- The first k made small, the rest as it was. -/
def mixL (l : List UInt8) (k : Nat) : List UInt8 := lowL (l.take k) ++ l.drop k
theorem mixL_length (l : List UInt8) (k : Nat) : (mixL l k).length = l.length := by
  simp only [mixL, lowL, List.length_append, List.length_map, List.length_take, List.length_drop]; omega
theorem mixL_zero (l : List UInt8) : mixL l 0 = l := by simp [mixL, lowL]
theorem mixL_all (l : List UInt8) (k : Nat) (h : l.length ≤ k) : mixL l k = lowL l := by
  simp [mixL, List.take_of_length_le h, List.drop_of_length_le h]
theorem mixL_get (l : List UInt8) (k : Nat) (h : k < l.length) (h' : k < (mixL l k).length) : (mixL l k)[k] = l[k] := by
  have e : (lowL (l.take k)).length = k := by simp only [lowL, List.length_map, List.length_take]; omega
  simp only [mixL]
  rw [List.getElem_append_right (by omega)]
  simp only [e, Nat.sub_self, List.getElem_drop, Nat.add_zero]
theorem mixL_succ (l : List UInt8) (k : Nat) (h : k < l.length) : mixL l (k + 1) = (mixL l k).set k (lowB l[k]) := by
  have e : (lowL (l.take k)).length = k := by simp only [lowL, List.length_map, List.length_take]; omega
  simp only [mixL]
  rw [List.set_append_right _ _ (by omega), e, Nat.sub_self, List.drop_eq_getElem_cons h, List.set_cons_zero, List.take_succ_eq_append_getElem h]
  simp only [lowL, List.map_append, List.map_cons, List.map_nil, List.append_assoc, List.singleton_append]

end Go.Proofs.YtifnolomekhmfaaGreat.M
namespace Go.Proofs.YtifnolomekhmfaaGreat.M

/-- A small name: a small letter, then small letters, digits and hyphens, at most 20 in all. -/
def smB : List UInt8 → Bool
  | [] => false
  | c :: r => decide ((c :: r).length ≤ 20) && isB (c.toNat : Int) 2 && allB (c :: r) [2, 4, 7]

/-- What the specification asks of the byte at place i. -/
def okAt (i : Nat) (c : Int) : Bool := isB c 2 || (i != 0 && (isB c 4 || c == 45))

theorem anyB_3 (c : Int) : anyB c [2, 4, 7] = (isB c 2 || (isB c 4 || c == 45)) := by
  simp [anyB, isB]

theorem okAt_any {i : Nat} {c : Int} (h : okAt i c = true) : anyB c [2, 4, 7] = true := by
  rw [anyB_3]
  unfold okAt at h
  cases h1 : isB c 2 <;> simp_all

theorem ok1 {k : Nat} {c : Int} (h : isB c 2 = true) : okAt k c = true := by simp [okAt, h]
theorem no2 {k : Nat} {c : Int} (h : ¬ isB c 2 = true) (h1 : k = 0) : okAt k c = false := by simp [okAt, h1]; simpa using h
theorem ok3 {k : Nat} {c : Int} (h1 : ¬ k = 0) (h2 : isB c 4 = true) : okAt k c = true := by simp [okAt, h1, h2]
theorem no4 {k : Nat} {c : Int} (h : ¬ isB c 2 = true) (h1 : ¬ k = 0) (h2 : ¬ isB c 4 = true) (h3 : ((k : Int) == 0) = true ∨ (c != 45) = true) : okAt k c = false := by
  rcases h3 with h3 | h3
  · simp at h3; exact absurd h3 h1
  · simp at h h2 h3; simp [okAt, h, h2, h3]
theorem ok5 {k : Nat} {c : Int} (h1 : ¬ k = 0) (h3 : ((k : Int) == 0) = false ∧ (c != 45) = false) : okAt k c = true := by
  obtain ⟨_, h3⟩ := h3
  simp at h3
  simp [okAt, h1, h3]

theorem smB_notL (l : List UInt8) (k : Nat) (h' : k < l.length) (h1 : okAt k (l[k].toNat : Int) = false) : smB l = false := by
  match l, k, h', h1 with
  | c :: r, 0, h', h1 =>
    have h2 : okAt 0 (c.toNat : Int) = false := h1
    simp [okAt] at h2
    simp [smB, h2]
  | c :: r, k + 1, h', h1 =>
    simp only [List.getElem_cons_succ] at h1
    have h2 : anyB (r[k]'(by simpa using h')).toNat [2, 4, 7] = false := by
      rw [anyB_3]; simpa [okAt] using h1
    have h3 : allB (c :: r) [2, 4, 7] = false := by
      unfold allB
      rw [List.all_eq_false]
      exact ⟨_, List.mem_cons_of_mem _ (List.getElem_mem (by simpa using h')), by simp [h2]⟩
    simp [smB, h3]

theorem smB_not (s : ByteArray) (k : Nat) (h : k < s.size) (h1 : okAt k (s[k].toNat : Int) = false) : smB s.data.toList = false := by
  have e : s.data.toList.length = s.size := Array.length_toList
  exact smB_notL s.data.toList k (by omega) h1

theorem smB_allL (l : List UInt8) (h2 : ∀ i (hi : i < l.length), okAt i (l[i].toNat : Int) = true) : smB l = inB (l.length : Int) 1 20 := by
  match l, h2 with
  | [], _ => simp [smB, inB]
  | c :: r, h2 =>
    have h0 : okAt 0 (c.toNat : Int) = true := h2 0 (by simp)
    have h3 : isB (c.toNat : Int) 2 = true := by simpa [okAt] using h0
    have h4 : allB (c :: r) [2, 4, 7] = true := by
      unfold allB
      rw [List.all_eq_true]
      intro x hx
      obtain ⟨i, hi, rfl⟩ := List.mem_iff_getElem.1 hx
      exact okAt_any (h2 i hi)
    simp only [smB, h3, h4, inB]
    rw [Bool.and_true, Bool.and_true, Bool.eq_iff_iff]
    simp
    omega

theorem smB_all (s : ByteArray) (h : ∀ i (hi : i < s.size), okAt i (s[i].toNat : Int) = true) : smB s.data.toList = inB (s.size : Int) 1 20 := by
  have e : s.data.toList.length = s.size := Array.length_toList
  rw [← e]
  exact smB_allL s.data.toList fun i hi => h i (by omega)

theorem smB_implL (l : List UInt8) (h0 : 0 < l.length) (h1 : l.length ≤ 20) : smB l = (isB (l[0].toNat : Int) 2 && allB l [2, 4, 7]) := by
  match l, h0, h1 with
  | c :: r, h0, h1 =>
    have h1' : r.length + 1 ≤ 20 := by simpa using h1
    show smB (c :: r) = (isB (c.toNat : Int) 2 && allB (c :: r) [2, 4, 7])
    simp [smB, h1']

/-- The program's own way to it. -/
theorem smB_impl (s : ByteArray) (h0 : 0 < s.size) (h1 : s.size ≤ 20) : smB s.data.toList = (isB ((s[0]).toNat : Int) 2 && allB s.data.toList [2, 4, 7]) := by
  have e : s.data.toList.length = s.size := Array.length_toList
  exact smB_implL s.data.toList (by omega) (by omega)

theorem smB_longL (l : List UInt8) (h : l.length < 1 ∨ 20 < l.length) : smB l = false := by
  match l, h with
  | [], _ => rfl
  | c :: r, h =>
    have h' : ¬ r.length + 1 ≤ 20 := by simp at h; omega
    simp [smB, h']

theorem smB_long (s : ByteArray) (h : s.size < 1 ∨ 20 < s.size) : smB s.data.toList = false := by
  have e : s.data.toList.length = s.size := Array.length_toList
  exact smB_longL _ (by omega)

end Go.Proofs.YtifnolomekhmfaaGreat.M
namespace Go.Proofs.YtifnolomekhmfaaGreat.M

def propB (p : Pp) : Bool := decide (p.1.size ≤ 20) && (allB p.1.data.toList [0] && (smB p.2.1.data.toList && (decide (p.2.2.size ≤ 20) && allB p.2.2.data.toList [0])))
def lessP (a b : Pp) : Bool := if a.1 = b.1 then lessT a.2.1 b.2.1 else lessT a.1 b.1
def ascB {α : Type} (f : α → α → Bool) : List α → Bool
  | a :: b :: r => f a b && ascB f (b :: r)
  | _ => true
theorem ascB_not {α : Type} (f : α → α → Bool) : ∀ (l : List α) (i : Nat) (h : i + 1 < l.length), f l[i] l[i + 1] = false → ascB f l = false
  | a :: b :: r, 0, h, e => by
    have e' : f a b = false := e
    rw [ascB, e']; rfl
  | a :: b :: r, i + 1, h, e => by
    rw [ascB, ascB_not f (b :: r) i (by simpa using h) (by simpa using e)]
    simp
theorem ascB_all {α : Type} (f : α → α → Bool) : ∀ (l : List α), (∀ (i : Nat) (h : i + 1 < l.length), f l[i] l[i + 1] = true) → ascB f l = true
  | [], _ => rfl
  | [a], _ => rfl
  | a :: b :: r, h => by
    have h0 : f a b = true := h 0 (by simp)
    rw [ascB, h0, ascB_all f (b :: r) (fun i hi => h (i + 1) (by simpa using hi))]
    rfl
def propsB (ps : List Pp) : Bool := decide (ps.length ≤ 4) && (ps.all propB && ascB lessP ps)
theorem propsB_long {ps : List Pp} (h : ¬ ps.length ≤ 4) : propsB ps = false := by unfold propsB; rw [decide_eq_false h]; rfl
theorem propsB_bad {ps : List Pp} (k : Nat) (h : k < ps.length) (e : propB ps[k] = false) : propsB ps = false := by
  unfold propsB
  have : ps.all propB = false := by
    rw [List.all_eq_false]
    exact ⟨_, List.getElem_mem h, by simp [e]⟩
  rw [this]; simp
theorem propsB_desc {ps : List Pp} (k : Nat) (h : k + 1 < ps.length) (e : lessP ps[k] ps[k + 1] = false) : propsB ps = false := by
  unfold propsB
  rw [ascB_not lessP ps k h e]; simp
theorem propsB_of {ps : List Pp} (h : ∀ j (hj : j < ps.length), propB ps[j] = true) : propsB ps = (decide (ps.length ≤ 4) && ascB lessP ps) := by
  unfold propsB
  have : ps.all propB = true := by
    rw [List.all_eq_true]
    intro p hp
    obtain ⟨j, hj, rfl⟩ := List.mem_iff_getElem.1 hp
    exact h j hj
  rw [this]; simp
/-- The first of two that is not nought. -/
def orI (x y : Int) : Int := if x ≠ 0 then x else y
theorem orI_yes {x y : Int} (h : ¬ x = 0) : orI x y = x := by unfold orI; rw [if_pos h]
theorem orI_no {x y : Int} (h : x = 0) : orI x y = y := by unfold orI; rw [if_neg (by simp [h])]
theorem lessP_cmp (a b : Pp) : decide (orI (cmpT a.1 b.1) (cmpT a.2.1 b.2.1) < 0) = lessP a b := by
  unfold lessP orI
  by_cases e : a.1 = b.1
  · rw [if_pos e, e, cmpT_same, if_neg (by simp)]
    exact cmpT_neg _ _
  · rw [if_neg e, if_pos (fun h => e (cmpT_zero _ _ h))]
    exact cmpT_neg _ _
end Go.Proofs.YtifnolomekhmfaaGreat.M
namespace Go.Proofs.YtifnolomekhmfaaGreat.M

/-- Whether it is of this space and this name. -/
def isP (x y : ByteArray) (p : Pp) : Bool := decide (p.1 = x) && decide (p.2.1 = y)
theorem isP_yes {x y : ByteArray} {p : Pp} (h1 : p.1 = x) (h2 : p.2.1 = y) : isP x y p = true := by simp [isP, h1, h2]
theorem isP_no1 {x y : ByteArray} {p : Pp} (h : ¬ p.1 = x) : isP x y p = false := by simp [isP, h]
theorem isP_no2 {x y : ByteArray} {p : Pp} (h : ¬ p.2.1 = y) : isP x y p = false := by simp [isP, h]
theorem isP_iff {x y : ByteArray} {p : Pp} : isP x y p = true ↔ p.1 = x ∧ p.2.1 = y := by simp [isP]
def knowL (ps : List Pp) (x y : ByteArray) : Option Pp := ps.find? (isP x y)
def valP : Option Pp → ByteArray
  | some p => p.2.2
  | none => ByteArray.empty
theorem know_at {ps : List Pp} {x y : ByteArray} {k : Nat} (hk : k < ps.length) (h : ∀ j (hj : j < ps.length), j < k → isP x y ps[j] = false) (e : isP x y ps[k] = true) : knowL ps x y = some ps[k] := by
  unfold knowL
  rw [List.find?_eq_some_iff_getElem]
  exact ⟨e, k, hk, rfl, fun j hj => by rw [h j (by omega) hj]; rfl⟩
theorem know_none {ps : List Pp} {x y : ByteArray} (h : ∀ j (hj : j < ps.length), isP x y ps[j] = false) : knowL ps x y = none := by
  unfold knowL
  rw [List.find?_eq_none]
  intro p hp
  obtain ⟨j, hj, rfl⟩ := List.mem_iff_getElem.1 hp
  rw [h j hj]; simp
theorem know_next {ps : List Pp} {k : Nat} (hk : k < ps.length) (x y : ByteArray) : knowL (ps.take (k + 1)) x y = (knowL (ps.take k) x y).or (if isP x y ps[k] then some ps[k] else none) := by
  unfold knowL
  rw [List.take_succ_eq_append_getElem hk, List.find?_append]
  congr 1
  simp only [List.find?_cons, List.find?_nil]
  cases isP x y ps[k] <;> simp

/-- A set: whether it is taken, and what. -/
abbrev Sx := Bool × Pp
/-- Of another space or name. -/
def neP (p x : Pp) : Bool := !isP p.1 p.2.1 x
/-- What is known behind one set, from a place on ('d': whether it came, or is not to come). -/
def oneF (d : Bool) (p : Pp) : List Pp → List Pp
  | [] => if d then [] else [p]
  | x :: r => (if d || lessP x p then [] else [p]) ++ ((if neP p x then [x] else []) ++ oneF (d || !lessP x p) p r)
def oneL (l : List Pp) (s : Sx) : List Pp := oneF s.1 s.2 l
theorem less_ne {p x : Pp} (h : lessP x p = true) : neP p x = true := by
  unfold neP
  cases e : isP p.1 p.2.1 x
  · rfl
  · obtain ⟨e1, e2⟩ := isP_iff.1 e
    unfold lessP at h
    rw [if_pos e1, e2, lessT_irr] at h
    cases h
theorem oneF_true (p : Pp) : ∀ l : List Pp, oneF true p l = l.filter (neP p)
  | [] => rfl
  | x :: r => by
    simp only [oneF, Bool.true_or, if_true, List.nil_append, oneF_true p r, List.filter_cons]
    cases neP p x <;> simp
/-- The place ahead of which it comes. -/
def plcL (p : Pp) : List Pp → Nat
  | [] => 0
  | x :: r => if lessP x p then plcL p r + 1 else 0
theorem plc_le (p : Pp) : ∀ l : List Pp, plcL p l ≤ l.length
  | [] => Nat.le_refl _
  | x :: r => by
    unfold plcL
    split
    · have := plc_le p r; simp only [List.length_cons]; omega
    · exact Nat.zero_le _
theorem plc_at (p : Pp) : ∀ (l : List Pp) (k : Nat) (hk : k < l.length), (∀ j (hj : j < l.length), j < k → lessP l[j] p = true) → lessP l[k] p = false → plcL p l = k
  | x :: r, 0, _, _, e => by
    have e' : lessP x p = false := e
    unfold plcL; rw [e']; rfl
  | x :: r, k + 1, hk, h, e => by
    have e0 : lessP x p = true := h 0 (by simp) (by omega)
    unfold plcL
    rw [e0, if_pos rfl, plc_at p r k (by simpa using hk) (fun j hj hjk => by have := h (j + 1) (by simpa using hj) (by omega); simpa using this) (by simpa using e)]
theorem plc_none (p : Pp) : ∀ (l : List Pp), (∀ j (hj : j < l.length), lessP l[j] p = true) → plcL p l = l.length
  | [], _ => rfl
  | x :: r, h => by
    have e0 : lessP x p = true := h 0 (by simp)
    unfold plcL
    rw [e0, if_pos rfl, plc_none p r (fun j hj => by have := h (j + 1) (by simpa using hj); simpa using this)]
    rfl
theorem oneF_plc (p : Pp) (d : Bool) : ∀ l : List Pp, oneF d p l = l.take (plcL p l) ++ ((if d then [] else [p]) ++ (l.drop (plcL p l)).filter (neP p))
  | [] => by cases d <;> simp [oneF, plcL]
  | x :: r => by
    unfold plcL oneF
    cases e : lessP x p
    · simp only [Bool.or_false, Bool.not_false, Bool.or_true, Bool.false_eq_true, if_false, List.take_zero, List.drop_zero, List.nil_append, oneF_true, List.filter_cons]
      cases neP p x <;> simp
    · simp only [Bool.or_true, if_true, List.nil_append, Bool.not_true, Bool.or_false, oneF_plc p d r, less_ne e, List.take_succ_cons, List.drop_succ_cons, List.cons_append]
theorem oneL_eq (l : List Pp) (s : Sx) : oneL l s = l.take (plcL s.2 l) ++ ((if s.1 then [] else [s.2]) ++ (l.drop (plcL s.2 l)).filter (neP s.2)) := oneF_plc s.2 s.1 l
theorem oneF_len (p : Pp) : ∀ (l : List Pp) (d : Bool), (oneF d p l).length ≤ l.length + (if d then 0 else 1)
  | [], d => by cases d <;> simp [oneF]
  | x :: r, d => by
    have h := oneF_len p r (d || !lessP x p)
    have e : (oneF d p (x :: r)).length = (if d || lessP x p then [] else [p]).length + ((if neP p x then [x] else []).length + (oneF (d || !lessP x p) p r).length) := by
      rw [oneF, List.length_append, List.length_append]
    rw [e]
    generalize (oneF (d || !lessP x p) p r).length = n at *
    generalize lessP x p = u at *
    generalize neP p x = v at *
    cases d <;> cases u <;> cases v <;> simp at * <;> omega
theorem oneL_len (l : List Pp) (s : Sx) : (oneL l s).length ≤ l.length + 1 := by
  have := oneF_len s.2 l s.1
  unfold oneL
  split at this <;> omega
theorem oneF_mem (p : Pp) : ∀ (l : List Pp) (d : Bool) (q : Pp), q ∈ oneF d p l → q = p ∨ q ∈ l
  | [], d, q, h => by cases d <;> simp [oneF] at h; exact .inl h
  | x :: r, d, q, h => by
    unfold oneF at h
    rw [List.mem_append, List.mem_append] at h
    rcases h with h | h | h
    · split at h
      · cases h
      · exact .inl (by simpa using h)
    · split at h
      · exact .inr (by simp at h; simp [h])
      · cases h
    · rcases oneF_mem p r _ q h with h | h
      · exact .inl h
      · exact .inr (List.mem_cons_of_mem _ h)
theorem oneL_mem {l : List Pp} {s : Sx} {q : Pp} (h : q ∈ oneL l s) : q = s.2 ∨ q ∈ l := oneF_mem s.2 l s.1 q h
/-- What is known behind all sets. -/
def turnL (l : List Pp) (ss : List Sx) : List Pp := ss.foldl oneL l
theorem turn_next (l : List Pp) (ss : List Sx) (k : Nat) (hk : k < ss.length) : turnL l (ss.take (k + 1)) = oneL (turnL l (ss.take k)) ss[k] := by
  unfold turnL
  rw [List.take_succ_eq_append_getElem hk, List.foldl_append]
  rfl
theorem turn_len (l : List Pp) (ss : List Sx) (k : Nat) : (turnL l (ss.take k)).length ≤ l.length + k := by
  induction k with
  | zero => simp [turnL]
  | succ k ih =>
    by_cases hk : k < ss.length
    · rw [turn_next l ss k hk]
      have := oneL_len (turnL l (ss.take k)) ss[k]
      omega
    · rw [List.take_of_length_le (by omega)]
      rw [List.take_of_length_le (by omega)] at ih
      omega
theorem turn_mem (l : List Pp) (ss : List Sx) (k : Nat) (q : Pp) (h : q ∈ turnL l (ss.take k)) : q ∈ l ∨ ∃ s ∈ ss, q = s.2 := by
  induction k with
  | zero => exact .inl (by simpa [turnL] using h)
  | succ k ih =>
    by_cases hk : k < ss.length
    · rw [turn_next l ss k hk] at h
      rcases oneL_mem h with h | h
      · exact .inr ⟨_, List.getElem_mem hk, h⟩
      · exact ih h
    · rw [List.take_of_length_le (by omega)] at h
      rw [List.take_of_length_le (by omega)] at ih
      exact ih h
def setsB (l : List Pp) (ss : List Sx) : Bool := ss.all (fun s => propB s.2) && propsB (turnL l ss)
def setsL (l : List Pp) (ss : List Sx) : List Pp := if setsB l ss then turnL l ss else l
theorem sets_bad {l : List Pp} {ss : List Sx} (k : Nat) (hk : k < ss.length) (e : propB ss[k].2 = false) : setsB l ss = false ∧ setsL l ss = l := by
  have h : setsB l ss = false := by
    unfold setsB
    have : ss.all (fun s => propB s.2) = false := by
      rw [List.all_eq_false]
      exact ⟨_, List.getElem_mem hk, by simp [e]⟩
    rw [this]; rfl
  exact ⟨h, by unfold setsL; rw [h]; rfl⟩
theorem sets_all {l : List Pp} {ss : List Sx} (h : ∀ j (hj : j < ss.length), propB ss[j].2 = true) : setsB l ss = propsB (turnL l ss) := by
  unfold setsB
  have : ss.all (fun s => propB s.2) = true := by
    rw [List.all_eq_true]
    intro p hp
    obtain ⟨j, hj, rfl⟩ := List.mem_iff_getElem.1 hp
    exact h j hj
  rw [this]; simp
theorem sets_no {l : List Pp} {ss : List Sx} (h : setsB l ss = false) : setsL l ss = l := by unfold setsL; rw [h]; rfl
theorem sets_yes {l : List Pp} {ss : List Sx} (h : setsB l ss = true) : setsL l ss = turnL l ss := by unfold setsL; rw [h]; rfl

def szT (s : Sx) : Nat := szP s.2
def sumT (ss : List Sx) : Nat := (ss.map szT).sum
theorem sumT_snoc (ps : List Sx) (k : Nat) (hk : k < ps.length) : sumT (ps.take (k + 1)) = sumT (ps.take k) + szT ps[k] := by
  unfold sumT
  rw [List.take_succ_eq_append_getElem hk, List.map_append, List.sum_append]
  simp only [List.map_cons, List.map_nil, List.sum_cons, List.sum_nil, Nat.add_zero]
theorem sumT_mem (ps : List Sx) (p : Sx) (h : p ∈ ps) : szT p ≤ sumT ps := by
  induction ps with
  | nil => cases h
  | cons x l ih =>
    simp only [sumT, List.map_cons, List.sum_cons] at *
    rcases List.mem_cons.1 h with rfl | h
    · omega
    · have := ih h; omega
def sameS (ss tt : List Sx) : Bool := decide (ss = tt)
theorem sameS_refl (ss : List Sx) : sameS ss ss = true := by simp [sameS]
theorem sameS_len {ss tt : List Sx} (h : ¬ ss.length = tt.length) : sameS ss tt = false := by
  simp only [sameS, decide_eq_false_iff_not]; intro e; exact h (by rw [e])
theorem sameS_not {ss tt : List Sx} (k : Nat) (h1 : k < ss.length) (h2 : k < tt.length) (h : ¬ ss[k] = tt[k]) : sameS ss tt = false := by
  simp only [sameS, decide_eq_false_iff_not]; intro e; subst e; exact h rfl
theorem sameS_all {ss tt : List Sx} (hl : ss.length = tt.length) (k : Nat) (hk : ¬ k < ss.length) (h : ss.take k = tt.take k) : sameS ss tt = true := by
  rw [List.take_of_length_le (by omega), List.take_of_length_le (by omega)] at h
  simp [sameS, h]
theorem take_sameS {ss tt : List Sx} (k : Nat) (h1 : k < ss.length) (h2 : k < tt.length) (h0 : ss.take k = tt.take k) (h : ss[k] = tt[k]) : ss.take (k + 1) = tt.take (k + 1) := by
  rw [List.take_succ_eq_append_getElem h1, List.take_succ_eq_append_getElem h2, h0, h]
end Go.Proofs.YtifnolomekhmfaaGreat.M
namespace Go.Proofs.YtifnolomekhmfaaGreat
open Go.RowKit M

/-- One of them, at a place. -/
def StAt (w : World) (b o : Nat) (p : Sx) : Prop := w.cell? ⟨b, o, none⟩ = some (.bool p.1) ∧ w.cell? ⟨b, o + 1, none⟩ = some (.string p.2.1) ∧ w.cell? ⟨b, o + 2, none⟩ = some (.string p.2.2.1) ∧ w.cell? ⟨b, o + 3, none⟩ = some (.string p.2.2.2)
/-- What a slice of them holds, in a block below B. -/
def Sts (w : World) (B : Nat) (a : Option Addr) (ps : List Sx) : Prop :=
  0 < ps.length → ∃ b o, a = some ⟨b, o, none⟩ ∧ b < B ∧ ∀ j (hj : j < ps.length), StAt w b (o + j * 4) ps[j]

theorem StAt.of {w w' : World} {b o : Nat} {p : Sx} (h : StAt w b o p) (e : ∀ o', w'.cell? ⟨b, o', none⟩ = w.cell? ⟨b, o', none⟩) : StAt w' b o p := by
  unfold StAt at *
  simp only [e]
  exact h
theorem Sts.of {w w' : World} {B : Nat} {a : Option Addr} {ps : List Sx} (h : Sts w B a ps) (e : ∀ b o, b < B → w'.cell? ⟨b, o, none⟩ = w.cell? ⟨b, o, none⟩) : Sts w' B a ps := fun h0 => by
  obtain ⟨b, o, ea, hb, hc⟩ := h h0
  exact ⟨b, o, ea, hb, fun j hj => (hc j hj).of (fun o' => e b o' hb)⟩
theorem Sts.below {w w' : World} {B C : Nat} {a : Option Addr} {ps : List Sx} (h : Sts w B a ps) (hb : Below C w w') (hB : B ≤ C) : Sts w' B a ps :=
  h.of (fun b o hbB => hb.cell (p := ⟨b, o, none⟩) (Nat.lt_of_lt_of_le hbB hB))
theorem Sts.mono {w : World} {B C : Nat} {a : Option Addr} {ps : List Sx} (h : Sts w B a ps) (hB : B ≤ C) : Sts w C a ps := fun h0 => by
  obtain ⟨b, o, e, hbB, hc⟩ := h h0
  exact ⟨b, o, e, Nat.lt_of_lt_of_le hbB hB, hc⟩
theorem Sts.nil (w : World) (B : Nat) (a : Option Addr) : Sts w B a [] := fun h => absurd h (Nat.lt_irrefl _)

/-- A row of them in block g, none of them frozen. -/
def RowU (w : World) (g : Nat) (ps : List Sx) : Prop := g < w.heap.size ∧ (∀ j (hj : j < ps.length), StAt w g (j * 4) ps[j]) ∧ ∀ i, w.frozen? ⟨g, i, none⟩ = false
theorem RowU.of {w w' : World} {g : Nat} {ps : List Sx} (h : RowU w g ps) (hz : g < w'.heap.size) (e : ∀ o', w'.cell? ⟨g, o', none⟩ = w.cell? ⟨g, o', none⟩) (f : ∀ o', w'.frozen? ⟨g, o', none⟩ = w.frozen? ⟨g, o', none⟩) : RowU w' g ps :=
  ⟨hz, fun j hj => (h.2.1 j hj).of e, fun i => by rw [f]; exact h.2.2 i⟩
theorem RowU.below {w w' : World} {g : Nat} {ps : List Sx} (h : RowU w g ps) (hb : Below w.heap.size w w') : RowU w' g ps :=
  h.of (Nat.lt_of_lt_of_le h.1 hb.size) (fun o => hb.cell (p := ⟨g, o, none⟩) h.1) (fun o => hb.frozen (p := ⟨g, o, none⟩) h.1)
theorem RowU.sts {w : World} {g C : Nat} {ps : List Sx} (h : RowU w g ps) (hC : g < C) : Sts w C (some ⟨g, 0, none⟩) ps := fun _ =>
  ⟨g, 0, rfl, hC, fun j hj => by rw [Nat.zero_add]; exact h.2.1 j hj⟩

/-- All of them short enough. -/
def ShortSs (ps : List Sx) : Prop := ∀ p ∈ ps, p.2.1.size ≤ maxLen ∧ p.2.2.1.size ≤ maxLen ∧ p.2.2.2.size ≤ maxLen
theorem ShortSs.at {ps : List Sx} (h : ShortSs ps) (k : Nat) (hk : k < ps.length) : (ps[k]).2.1.size ≤ maxLen ∧ (ps[k]).2.2.1.size ≤ maxLen ∧ (ps[k]).2.2.2.size ≤ maxLen := h _ (List.getElem_mem hk)

theorem info_set : (Tryz.prog.info? 119).map (fun i => (i.zero, i.size, i.bytes)) = some (some (.agg #[.bool false, .string ByteArray.empty, .string ByteArray.empty, .string ByteArray.empty]), 4, 56) := by kernel_rfl
theorem run_make_sets (n : Nat) (hn : n ≤ 1048576) (w : World) :
    (Instr.makeSlice 57 (.int .i64 (n : Int)) (.int .i64 (n : Int))).run Tryz.prog w = .ok (.slice (some ⟨w.heap.size, 0, none⟩) n n) (w.alloc (.cells (madeCells #[.bool false, .string ByteArray.empty, .string ByteArray.empty, .string ByteArray.empty] (n * 4)) 119)) := by
  obtain ⟨i, hi, hz, hs, hb⟩ := info_parts info_set
  have hr := run_make (P := Tryz.prog) w 57 119 i _ Tryz.underlying57 hi hz .i64 .i64 n n (by omega) (Int.le_refl _) (by rw [hb]; omega) (by omega)
  simp only [Int.toNat_natCast, hs] at hr
  exact hr

/-- What is made so far of a row of them. -/
def MadeU (w : World) (g : Nat) (ps : List Sx) (k : Nat) : Prop := ∃ F : Nat → Value, w.rowIs g 119 (ps.length * 4) F ∧ ∀ j (hj : j < ps.length), j < k → F (j * 4) = .bool ps[j].1 ∧ F (j * 4 + 1) = .string ps[j].2.1 ∧ F (j * 4 + 2) = .string ps[j].2.2.1 ∧ F (j * 4 + 3) = .string ps[j].2.2.2
theorem MadeU.start (w : World) (ps : List Sx) : MadeU (w.alloc (.cells (madeCells #[.bool false, .string ByteArray.empty, .string ByteArray.empty, .string ByteArray.empty] (ps.length * 4)) 119)) w.heap.size ps 0 := by
  have hr := World.rowIs_alloc w (madeCells #[.bool false, .string ByteArray.empty, .string ByteArray.empty, .string ByteArray.empty] (ps.length * 4)) 119 (fun i => ((madeCells #[.bool false, .string ByteArray.empty, .string ByteArray.empty, .string ByteArray.empty] (ps.length * 4))[i]?).getD (.bool false)) (fun i hi => by rw [Array.getElem?_eq_getElem hi]; rfl)
  rw [size_madeCells] at hr
  exact ⟨_, hr, fun j _ hj => absurd hj (Nat.not_lt_zero _)⟩
theorem MadeU.below {w w1 : World} {g : Nat} {ps : List Sx} {k : Nat} (m : MadeU w g ps k) (hb : Below w.heap.size w w1) : MadeU w1 g ps k := by
  obtain ⟨F, hr, hj⟩ := m
  exact ⟨F, hr.of_block (w' := w1) (hb.block _ hr.lt), hj⟩
theorem MadeU.lt {w : World} {g : Nat} {ps : List Sx} {k : Nat} (m : MadeU w g ps k) : g < w.heap.size := by obtain ⟨F, hr, _⟩ := m; exact hr.lt
theorem MadeU.cells {w : World} {g : Nat} {ps : List Sx} {k : Nat} (m : MadeU w g ps k) (hk : k < ps.length) : ∃ v0 v1 v2 v3, w.cell? ⟨g, k * 4, none⟩ = some v0 ∧ w.cell? ⟨g, k * 4 + 1, none⟩ = some v1 ∧ w.cell? ⟨g, k * 4 + 2, none⟩ = some v2 ∧ w.cell? ⟨g, k * 4 + 3, none⟩ = some v3 ∧ w.frozen? ⟨g, k * 4, none⟩ = false ∧ w.frozen? ⟨g, k * 4 + 1, none⟩ = false ∧ w.frozen? ⟨g, k * 4 + 2, none⟩ = false ∧ w.frozen? ⟨g, k * 4 + 3, none⟩ = false := by
  obtain ⟨F, hr, _⟩ := m
  exact ⟨_, _, _, _, hr.cell (by omega), hr.cell (by omega), hr.cell (by omega), hr.cell (by omega), hr.frozen _, hr.frozen _, hr.frozen _, hr.frozen _⟩
theorem MadeU.next {w : World} {g : Nat} {ps : List Sx} {k : Nat} (m : MadeU w g ps k) (hk : k < ps.length) : MadeU ((((w.setCell ⟨g, k * 4, none⟩ (.bool ps[k].1)).setCell ⟨g, k * 4 + 1, none⟩ (.string ps[k].2.1)).setCell ⟨g, k * 4 + 2, none⟩ (.string ps[k].2.2.1)).setCell ⟨g, k * 4 + 3, none⟩ (.string ps[k].2.2.2)) g ps (k + 1) := by
  obtain ⟨F, hr, hj⟩ := m
  refine ⟨_, (((hr.set (k * 4) (.bool ps[k].1)).set (k * 4 + 1) (.string ps[k].2.1)).set (k * 4 + 2) (.string ps[k].2.2.1)).set (k * 4 + 3) (.string ps[k].2.2.2), fun j hjl hjk => ?_⟩
  by_cases e : j = k
  · subst e
    refine ⟨?_, ?_, ?_, ?_⟩ <;> simp
  · obtain ⟨e0, e1, e2, e3⟩ := hj j hjl (by omega)
    refine ⟨?_, ?_, ?_, ?_⟩
    · simp only [show ¬ j * 4 = k * 4 + 3 by omega, show ¬ j * 4 = k * 4 + 2 by omega, show ¬ j * 4 = k * 4 + 1 by omega, show ¬ j * 4 = k * 4 by omega, if_false]; exact e0
    · simp only [show ¬ j * 4 + 1 = k * 4 + 3 by omega, show ¬ j * 4 + 1 = k * 4 + 2 by omega, show ¬ j * 4 + 1 = k * 4 + 1 by omega, show ¬ j * 4 + 1 = k * 4 by omega, if_false]; exact e1
    · simp only [show ¬ j * 4 + 2 = k * 4 + 3 by omega, show ¬ j * 4 + 2 = k * 4 + 2 by omega, show ¬ j * 4 + 2 = k * 4 + 1 by omega, show ¬ j * 4 + 2 = k * 4 by omega, if_false]; exact e2
    · simp only [show ¬ j * 4 + 3 = k * 4 + 3 by omega, show ¬ j * 4 + 3 = k * 4 + 2 by omega, show ¬ j * 4 + 3 = k * 4 + 1 by omega, show ¬ j * 4 + 3 = k * 4 by omega, if_false]; exact e3
theorem MadeU.done {w : World} {g : Nat} {ps : List Sx} {k : Nat} (m : MadeU w g ps k) (hk : ¬ k < ps.length) : RowU w g ps := by
  obtain ⟨F, hr, hj⟩ := m
  refine ⟨hr.lt, fun j hjl => ?_, fun i => hr.frozen i⟩
  obtain ⟨e0, e1, e2, e3⟩ := hj j hjl (by omega)
  exact ⟨by rw [hr.cell (by omega), e0], by rw [hr.cell (by omega), e1], by rw [hr.cell (by omega), e2], by rw [hr.cell (by omega), e3]⟩
end Go.Proofs.YtifnolomekhmfaaGreat
namespace Go.Proofs.YtifnolomekhmfaaGreat

theorem ret_bool {a b : Bool} (h : a = b) : Ending.returned (.bool a) = .returned (.bool b) := by rw [h]
end Go.Proofs.YtifnolomekhmfaaGreat
namespace Go.Proofs.YtifnolomekhmfaaGreat
open Go.RowKit M

set_option maxHeartbeats 400000 in
theorem l1In_any (x a b : Int) (w : World) :
    Calls Tryz.prog 81 #[.int .i64 x, .int .i64 a, .int .i64 b] w fun e w' => e = .returned (.bool (inB x a b)) ∧ w' = w := by
  go_enter Tryz.func81, Tryz.ntmps81
  go_wp2
  all_goals
    go_ret
    refine ⟨ret_bool ?_, rfl⟩
    go_light
    unfold inB
    simp_all
    try omega

theorem wrap64_u8 (c : UInt8) : wrap64 (c.toNat : Int) = c.toNat := by
  have := c.toNat_lt
  unfold wrap64
  omega
end Go.Proofs.YtifnolomekhmfaaGreat
namespace Go.Proofs.YtifnolomekhmfaaGreat
open Go.RowKit M

set_option maxHeartbeats 400000 in
theorem specPlain_any (s : ByteArray) (w : World) (hs : s.size ≤ maxLen) :
    Calls Tryz.prog 128 #[.string s] w fun e w' => e = .returned (.bool (allB s.data.toList [0])) ∧ w' = w := by
  unfold maxLen at hs
  go_enter Tryz.func128, Tryz.ntmps128
  go_wp2
  go_loop [3] (fun i => ∃ k : Nat, k ≤ s.size ∧ i = .int .i64 k ∧ allB (s.data.toList.take k) [0] = true) (fun i => s.size - (intOf i).toNat)
  case atStart => exact ⟨0, Nat.zero_le _, rfl, rfl⟩
  case round =>
    obtain ⟨k, hk, rfl, hn⟩ := hrel
    have HN : Hid (allB (s.data.toList.take k) [0] = true) := hn; clear hn
    by_cases hlt : k < s.size
    · go_wp2_with (go_at_call 81; refine (l1In_any _ _ _ _).mono ?_; rintro e w' ⟨rfl, rfl⟩; rw [wrap64_u8, inB_plain])
      · go_ret
        exact ⟨ret_bool (by rw [allB_not s [0] k hlt (by assumption)]), rfl⟩
      · go_round
        case rel => exact ⟨k + 1, by omega, by go_num, allB_snoc s [0] k hlt HN.out (by assumption)⟩
        case measure => simp [intOf]; omega
    · go_wp2
      go_ret
      exact ⟨ret_bool (by rw [← HN.out, take_all s k hlt]), rfl⟩

end Go.Proofs.YtifnolomekhmfaaGreat
namespace Go.Proofs.YtifnolomekhmfaaGreat
open Go.RowKit M

set_option maxHeartbeats 400000 in
theorem l1Digit_any (c : UInt8) (w : World) :
    Calls Tryz.prog 145 #[.int .u8 c.toNat] w fun e w' => e = .returned (.bool (isB c.toNat 4)) ∧ w' = w := by
  go_enter Tryz.func145, Tryz.ntmps145
  go_wp2_with (go_at_call 81; refine (l1In_any _ _ _ _).mono ?_; rintro e w' ⟨rfl, rfl⟩; rw [wrap64_u8, inB_digit])
  go_ret
  exact ⟨rfl, rfl⟩
end Go.Proofs.YtifnolomekhmfaaGreat
namespace Go.Proofs.YtifnolomekhmfaaGreat
open Go.RowKit M

set_option maxHeartbeats 400000 in
theorem l1Small_any (c : UInt8) (w : World) :
    Calls Tryz.prog 144 #[.int .u8 c.toNat] w fun e w' => e = .returned (.bool (isB c.toNat 2)) ∧ w' = w := by
  go_enter Tryz.func144, Tryz.ntmps144
  go_wp2_with (go_at_call 81; refine (l1In_any _ _ _ _).mono ?_; rintro e w' ⟨rfl, rfl⟩; rw [wrap64_u8, inB_small])
  go_ret
  exact ⟨rfl, rfl⟩

set_option maxHeartbeats 1000000 in
theorem specSmallName_any (s : ByteArray) (w : World) (hs : s.size ≤ maxLen) :
    Calls Tryz.prog 129 #[.string s] w fun e w' => e = .returned (.bool (smB s.data.toList)) ∧ w' = w := by
  unfold maxLen at hs
  go_enter Tryz.func129, Tryz.ntmps129
  go_wp2
  go_loop [3] (fun i => ∃ k : Nat, k ≤ s.size ∧ i = .int .i64 k ∧ ∀ j (hj : j < s.size), j < k → okAt j (s[j].toNat : Int) = true) (fun i => s.size - (intOf i).toNat)
  case atStart => exact ⟨0, Nat.zero_le _, rfl, fun _ _ h => absurd h (Nat.not_lt_zero _)⟩
  case round =>
    obtain ⟨k, hk, rfl, hn⟩ := hrel
    have HN : Hid (∀ j (hj : j < s.size), j < k → okAt j (s[j].toNat : Int) = true) := hn; clear hn
    by_cases hlt : k < s.size
    · have hnext : okAt k (s[k].toNat : Int) = true → ∀ j (hj : j < s.size), j < k + 1 → okAt j (s[j].toNat : Int) = true := by
        intro ho j hj hjk
        by_cases e : j = k
        · subst e; exact ho
        · exact HN.out j hj (by omega)
      have HX : Hid (okAt k (s[k].toNat : Int) = true → ∀ j (hj : j < s.size), j < k + 1 → okAt j (s[j].toNat : Int) = true) := hnext
      clear hnext
      go_wp2_with (first | (go_at_call 144; refine (l1Small_any _ _).mono ?_; rintro e w' ⟨rfl, rfl⟩) | (go_at_call 145; refine (l1Digit_any _ _).mono ?_; rintro e w' ⟨rfl, rfl⟩))
      · go_round
        case rel => exact ⟨k + 1, by omega, by go_num, HX.out (ok1 (by assumption))⟩
        case measure => simp [intOf]; omega
      · go_ret
        exact ⟨ret_bool (smB_not s k hlt (no2 (by assumption) (by assumption))).symm, rfl⟩
      · go_round
        case rel => exact ⟨k + 1, by omega, by go_num, HX.out (ok3 (by assumption) (by assumption))⟩
        case measure => simp [intOf]; omega
      · go_ret
        exact ⟨ret_bool (smB_not s k hlt (no4 (by assumption) (by assumption) (by assumption) (by assumption))).symm, rfl⟩
      · go_round
        case rel => exact ⟨k + 1, by omega, by go_num, HX.out (ok5 (by assumption) (by assumption))⟩
        case measure => simp [intOf]; omega
    · go_wp2_with (go_at_call 81; refine (l1In_any _ _ _ _).mono ?_; rintro e w' ⟨rfl, rfl⟩)
      go_ret
      exact ⟨ret_bool (by rw [smB_all s (fun i hi => HN.out i hi (by omega))]), rfl⟩
end Go.Proofs.YtifnolomekhmfaaGreat
namespace Go.Proofs.YtifnolomekhmfaaGreat
open Go.RowKit M
set_option linter.unusedVariables false

set_option maxHeartbeats 2000000 in
theorem specProp_any (p : Pp) (w : World) (h1 : p.1.size ≤ maxLen) (h2 : p.2.1.size ≤ maxLen) (h3 : p.2.2.size ≤ maxLen) :
    Calls Tryz.prog 94 #[.agg #[.string p.1, .string p.2.1, .string p.2.2]] w fun e w' => e = .returned (.bool (propB p)) ∧ Below w.heap.size w w' := by
  obtain ⟨x, y, z⟩ := p
  simp only at *
  have HB0 := hide (show Below w.heap.size w (w.alloc (Obj.cells #[.string x, .string y, .string z] 88)) from (Below.refl _ _).alloc (Nat.le_refl _) _)
  have HX := hide (fun W => specPlain_any x W h1)
  have HY := hide (fun W => specSmallName_any y W h2)
  have HZ := hide (fun W => specPlain_any z W h3)
  have HF := hide (show propB (x, y, z) = (decide (x.size ≤ 20) && (allB x.data.toList [0] && (smB y.data.toList && (decide (z.size ≤ 20) && allB z.data.toList [0])))) from rfl)
  generalize propB (x, y, z) = R at *
  generalize allB x.data.toList [0] = bx at *
  generalize smB y.data.toList = by' at *
  generalize allB z.data.toList [0] = bz at *
  by_cases hx : x.size ≤ 20
  · cases bx
    · have hr : R = false := by rw [HF.out]; simp
      subst hr
      go_enter Tryz.func94, Tryz.ntmps94
      go_wp2_with fail
      refine (HX.out _).mono ?_
      rintro e w1 ⟨rfl, hw⟩
      obtain rfl := hw
      go_wp2
      go_ret
      exact ⟨rfl, HB0.out⟩
    · cases by'
      · have hr : R = false := by rw [HF.out]; simp
        subst hr
        go_enter Tryz.func94, Tryz.ntmps94
        go_wp2_with fail
        refine (HX.out _).mono ?_
        rintro e w1 ⟨rfl, hw⟩
        obtain rfl := hw
        go_wp2_with fail
        refine (HY.out _).mono ?_
        rintro e w1 ⟨rfl, hw⟩
        obtain rfl := hw
        go_wp2
        go_ret
        exact ⟨rfl, HB0.out⟩
      · by_cases hz : z.size ≤ 20
        · have hr : R = bz := by rw [HF.out]; simp [hx, hz]
          subst hr
          go_enter Tryz.func94, Tryz.ntmps94
          go_wp2_with fail
          refine (HX.out _).mono ?_
          rintro e w1 ⟨rfl, hw⟩
          obtain rfl := hw
          go_wp2_with fail
          refine (HY.out _).mono ?_
          rintro e w1 ⟨rfl, hw⟩
          obtain rfl := hw
          go_wp2_with fail
          refine (HZ.out _).mono ?_
          rintro e w1 ⟨rfl, hw⟩
          obtain rfl := hw
          go_wp2
          go_ret
          exact ⟨rfl, HB0.out⟩
        · have hr : R = false := by rw [HF.out]; simp [hz]
          subst hr
          go_enter Tryz.func94, Tryz.ntmps94
          go_wp2_with fail
          refine (HX.out _).mono ?_
          rintro e w1 ⟨rfl, hw⟩
          obtain rfl := hw
          go_wp2_with fail
          refine (HY.out _).mono ?_
          rintro e w1 ⟨rfl, hw⟩
          obtain rfl := hw
          go_wp2
          go_ret
          exact ⟨rfl, HB0.out⟩
  · have hr : R = false := by rw [HF.out]; simp [hx]
    subst hr
    go_enter Tryz.func94, Tryz.ntmps94
    go_wp2
    go_ret
    exact ⟨rfl, HB0.out⟩

set_option maxHeartbeats 1000000 in
theorem specLessProp_any (p q : Pp) (w : World) :
    Calls Tryz.prog 95 #[.agg #[.string p.1, .string p.2.1, .string p.2.2], .agg #[.string q.1, .string q.2.1, .string q.2.2]] w fun e w' => e = .returned (.bool (lessP p q)) ∧ Below w.heap.size w w' := by
  obtain ⟨x, y, z⟩ := p
  obtain ⟨x', y', z'⟩ := q
  simp only
  have hb0 : Below w.heap.size w ((w.alloc (Obj.cells #[.string x, .string y, .string z] 88)).alloc (Obj.cells #[.string x', .string y', .string z'] 88)) := ((Below.refl _ _).alloc (Nat.le_refl _) _).alloc (by simp) _
  by_cases e : x = x'
  · have HF := hide (show lessP (x, y, z) (x', y', z') = Op.bytesLess y.toList y'.toList by unfold lessP; rw [if_pos e]; rfl)
    have hq : (x.toList == x'.toList) = true := by rw [e]; simp
    generalize lessP (x, y, z) (x', y', z') = R at *
    clear e
    go_enter Tryz.func95, Tryz.ntmps95
    go_wp2
    go_ret
    exact ⟨ret_bool HF.out.symm, hb0⟩
  · have HF := hide (show lessP (x, y, z) (x', y', z') = Op.bytesLess x.toList x'.toList by unfold lessP; rw [if_neg e]; rfl)
    have hq : (x.toList == x'.toList) = false := by rw [beq_eq_false_iff_ne]; exact fun e' => e (strInjP e')
    generalize lessP (x, y, z) (x', y', z') = R at *
    clear e
    go_enter Tryz.func95, Tryz.ntmps95
    go_wp2
    go_ret
    exact ⟨ret_bool HF.out.symm, hb0⟩
end Go.Proofs.YtifnolomekhmfaaGreat
namespace Go.Proofs.YtifnolomekhmfaaGreat
open Go.RowKit

theorem neBs {x y : ByteArray} (h : ¬ x = y) : (x.toList == y.toList) = false := by
  rw [beq_eq_false_iff_ne]; exact fun e => h (strInjP e)
theorem eqBs {x y : ByteArray} (h : x = y) : (x.toList == y.toList) = true := by rw [h]; simp
end Go.Proofs.YtifnolomekhmfaaGreat
