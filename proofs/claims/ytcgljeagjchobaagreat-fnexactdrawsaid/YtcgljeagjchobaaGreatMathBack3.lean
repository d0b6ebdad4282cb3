/-
  Plain facts on the order of texts and of lists of texts: no program in sight.
  Plain facts on small names: no program in sight.
  Which lists of what is known are right: no program in sight.
  Where a thing stands in a list of things.
  A list of texts without its last.
  Plain facts on numbers' digits: no program in sight.
  Plain facts on numbers read of their digits: no program in sight.
  Plain facts on numbers read of their digits to the base 16: no program in sight.
  Plain facts on what is unquoted: no program in sight.
  What is quoted comes back, and is plain: no program in sight.
  Plain facts on texts that are cut at slashes, and on what is walked of the pieces: no program in sight.
  A path comes back of its text; what is read is a path: no program in sight.
-/
import GoSem.Op.String
import Derived.Test.YtcgljeagjchobaaGreatTurn
import Derived.Test.YtcgljeagjchobaaGreatGenSrv
import Derived.Test.YtcgljeagjchobaaGreatGenPick
import Derived.Lib.ItoaNum
import Derived.Lib.Atoi
import Derived.Lib.Split
import Derived.Lib.SplitLaws
import Derived.Lib.IndexBytes
namespace Go.Proofs.YtcgljeagjchobaaGreat.M

/-- Whether a text comes ahead of another. -/
def lessT (a b : ByteArray) : Bool := Op.bytesLess a.toList b.toList

theorem bytesLess_irr : ∀ l : List UInt8, Op.bytesLess l l = false
  | [] => by simp [Op.bytesLess]
  | a :: l => by
    have := bytesLess_irr l
    simp [Op.bytesLess, this]
theorem lessT_irr (a : ByteArray) : lessT a a = false := bytesLess_irr _

theorem bytesLess_asym : ∀ l r : List UInt8, Op.bytesLess l r = true → Op.bytesLess r l = false
  | [], [], h => by simp [Op.bytesLess] at h
  | [], b :: r, _ => by simp [Op.bytesLess]
  | a :: l, [], h => by simp [Op.bytesLess] at h
  | a :: l, b :: r, h => by
    have ih := bytesLess_asym l r
    simp only [Op.bytesLess, Bool.or_eq_true, Bool.and_eq_true, decide_eq_true_eq, beq_iff_eq, Bool.or_eq_false_iff, decide_eq_false_iff_not, Bool.and_eq_false_iff] at *
    rcases h with h | ⟨rfl, h⟩
    · refine ⟨fun h' => ?_, .inl ?_⟩
      · have h1 : a.toNat < b.toNat := h
        have h2 : b.toNat < a.toNat := h'
        omega
      · rw [beq_eq_false_iff_ne]; rintro rfl; exact absurd h (by have : ¬ b.toNat < b.toNat := Nat.lt_irrefl _; exact this)
    · exact ⟨by have : ¬ a.toNat < a.toNat := Nat.lt_irrefl _; exact this, .inr (ih h)⟩
theorem lessT_asym (a b : ByteArray) (h : lessT a b = true) : lessT b a = false := bytesLess_asym _ _ h

theorem bytesLess_tri : ∀ l r : List UInt8, Op.bytesLess l r = false → Op.bytesLess r l = false → l = r
  | [], [], _, _ => rfl
  | [], b :: r, h, _ => by simp [Op.bytesLess] at h
  | a :: l, [], _, h => by simp [Op.bytesLess] at h
  | a :: l, b :: r, h, h' => by
    have ih := bytesLess_tri l r
    simp only [Op.bytesLess, Bool.or_eq_false_iff, decide_eq_false_iff_not, Bool.and_eq_false_iff] at h h'
    have e : a = b := by
      have h1 : ¬ a.toNat < b.toNat := h.1
      have h2 : ¬ b.toNat < a.toNat := h'.1
      exact UInt8.toNat_inj.1 (by omega)
    subst e
    rcases h.2 with h1 | h1
    · simp at h1
    · rcases h'.2 with h2 | h2
      · simp at h2
      · rw [ih h1 h2]

/-- How two texts stand: -1, 0 or 1. -/
def cmpT (a b : ByteArray) : Int := if lessT a b then -1 else if a = b then 0 else 1
theorem cmpT_same (a : ByteArray) : cmpT a a = 0 := by unfold cmpT; rw [lessT_irr]; simp
theorem cmpT_zero (a b : ByteArray) (h : cmpT a b = 0) : a = b := by
  unfold cmpT at h
  by_cases h1 : lessT a b = true
  · rw [if_pos h1] at h; omega
  · rw [if_neg h1] at h
    by_cases h2 : a = b
    · exact h2
    · rw [if_neg h2] at h; omega
theorem cmpT_neg (a b : ByteArray) : decide (cmpT a b < 0) = lessT a b := by
  unfold cmpT
  cases h : lessT a b
  · by_cases h2 : a = b
    · simp [h2]
    · simp [h2]
  · simp

/-- Whether a list of texts comes ahead of another: text by text, a beginning ahead. -/
def lessL : List ByteArray → List ByteArray → Bool
  | [], [] => false
  | [], _ :: _ => true
  | _ :: _, [] => false
  | x :: a, y :: b => if x = y then lessL a b else lessT x y

theorem lessL_irr : ∀ l, lessL l l = false
  | [] => rfl
  | x :: a => by rw [lessL, if_pos rfl]; exact lessL_irr a
theorem lessL_asym : ∀ a b, lessL a b = true → lessL b a = false
  | [], [], h => by simp [lessL] at h
  | [], _ :: _, _ => by simp [lessL]
  | _ :: _, [], h => by simp [lessL] at h
  | x :: a, y :: b, h => by
    rw [lessL] at h ⊢
    by_cases e : x = y
    · subst e; rw [if_pos rfl] at *; exact lessL_asym a b h
    · rw [if_neg e] at h; rw [if_neg (fun e' => e e'.symm)]; exact lessT_asym _ _ h

theorem lessL_step {a b : List ByteArray} (k : Nat) (h1 : k < a.length) (h2 : k < b.length) (e : a[k] = b[k]) : lessL (a.drop k) (b.drop k) = lessL (a.drop (k + 1)) (b.drop (k + 1)) := by
  rw [List.drop_eq_getElem_cons h1, List.drop_eq_getElem_cons h2, lessL, if_pos e]
theorem lessL_at {a b : List ByteArray} (k : Nat) (h1 : k < a.length) (h2 : k < b.length) (e : ¬ a[k] = b[k]) : lessL (a.drop k) (b.drop k) = lessT a[k] b[k] := by
  rw [List.drop_eq_getElem_cons h1, List.drop_eq_getElem_cons h2, lessL, if_neg e]
theorem lessL_end {a b : List ByteArray} (k : Nat) (h : ¬ (k < a.length ∧ k < b.length)) (ha : k ≤ a.length) (hb : k ≤ b.length) : lessL (a.drop k) (b.drop k) = decide (a.length < b.length) := by
  by_cases h1 : k < a.length
  · have e : k = b.length := by omega
    subst e
    rw [List.drop_eq_getElem_cons h1, List.drop_of_length_le (Nat.le_refl _), lessL]
    have : ¬ a.length < b.length := by omega
    simp [this]
  · have e : k = a.length := by omega
    subst e
    rw [List.drop_of_length_le (Nat.le_refl _)]
    by_cases h2 : a.length < b.length
    · rw [List.drop_eq_getElem_cons h2, lessL]; simp [h2]
    · rw [List.drop_of_length_le (by omega), lessL]; simp [h2]
end Go.Proofs.YtcgljeagjchobaaGreat.M
namespace Go.Proofs.YtcgljeagjchobaaGreat.M

/-- A small name: a small letter, then small letters, digits and hyphens, at most 20 in all. -/
def smB : List UInt8 → Bool
  | [] => false
  | c :: r => decide ((c :: r).length ≤ 20) && isB (c.toNat : Int) 2 && allB (c :: r) [2, 4, 7]

/-- What the specification asks of the byte at place i. -/
def okAt (i : Nat) (c : Int) : Bool := isB c 2 || (i != 0 && (isB c 4 || c == 45))

theorem anyB_3 (c : Int) : anyB c [2, 4, 7] = (isB c 2 || (isB c 4 || c == 45)) := by
  simp [anyB, isB]

theorem okAt_any {i : Nat} {c : Int} (h : okAt i c = true) : anyB c [2, 4, 7] = true := by
  rw [anyB_3]
  unfold okAt at h
  cases h1 : isB c 2 <;> simp_all

theorem ok1 {k : Nat} {c : Int} (h : isB c 2 = true) : okAt k c = true := by simp [okAt, h]
theorem no2 {k : Nat} {c : Int} (h : ¬ isB c 2 = true) (h1 : k = 0) : okAt k c = false := by simp [okAt, h1]; simpa using h
theorem ok3 {k : Nat} {c : Int} (h1 : ¬ k = 0) (h2 : isB c 4 = true) : okAt k c = true := by simp [okAt, h1, h2]
theorem no4 {k : Nat} {c : Int} (h : ¬ isB c 2 = true) (h1 : ¬ k = 0) (h2 : ¬ isB c 4 = true) (h3 : ((k : Int) == 0) = true ∨ (c != 45) = true) : okAt k c = false := by
  rcases h3 with h3 | h3
  · simp at h3; exact absurd h3 h1
  · simp at h h2 h3; simp [okAt, h, h2, h3]
theorem ok5 {k : Nat} {c : Int} (h1 : ¬ k = 0) (h3 : ((k : Int) == 0) = false ∧ (c != 45) = false) : okAt k c = true := by
  obtain ⟨_, h3⟩ := h3
  simp at h3
  simp [okAt, h1, h3]

theorem smB_notL (l : List UInt8) (k : Nat) (h' : k < l.length) (h1 : okAt k (l[k].toNat : Int) = false) : smB l = false := by
  match l, k, h', h1 with
  | c :: r, 0, h', h1 =>
    have h2 : okAt 0 (c.toNat : Int) = false := h1
    simp [okAt] at h2
    simp [smB, h2]
  | c :: r, k + 1, h', h1 =>
    simp only [List.getElem_cons_succ] at h1
    have h2 : anyB (r[k]'(by simpa using h')).toNat [2, 4, 7] = false := by
      rw [anyB_3]; simpa [okAt] using h1
    have h3 : allB (c :: r) [2, 4, 7] = false := by
      unfold allB
      rw [List.all_eq_false]
      exact ⟨_, List.mem_cons_of_mem _ (List.getElem_mem (by simpa using h')), by simp [h2]⟩
    simp [smB, h3]

theorem smB_not (s : ByteArray) (k : Nat) (h : k < s.size) (h1 : okAt k (s[k].toNat : Int) = false) : smB s.data.toList = false := by
  have e : s.data.toList.length = s.size := Array.length_toList
  exact smB_notL s.data.toList k (by omega) h1

theorem smB_allL (l : List UInt8) (h2 : ∀ i (hi : i < l.length), okAt i (l[i].toNat : Int) = true) : smB l = inB (l.length : Int) 1 20 := by
  match l, h2 with
  | [], _ => simp [smB, inB]
  | c :: r, h2 =>
    have h0 : okAt 0 (c.toNat : Int) = true := h2 0 (by simp)
    have h3 : isB (c.toNat : Int) 2 = true := by simpa [okAt] using h0
    have h4 : allB (c :: r) [2, 4, 7] = true := by
      unfold allB
      rw [List.all_eq_true]
      intro x hx
      obtain ⟨i, hi, rfl⟩ := List.mem_iff_getElem.1 hx
      exact okAt_any (h2 i hi)
    simp only [smB, h3, h4, inB]
    rw [Bool.and_true, Bool.and_true, Bool.eq_iff_iff]
    simp
    omega

theorem smB_all (s : ByteArray) (h : ∀ i (hi : i < s.size), okAt i (s[i].toNat : Int) = true) : smB s.data.toList = inB (s.size : Int) 1 20 := by
  have e : s.data.toList.length = s.size := Array.length_toList
  rw [← e]
  exact smB_allL s.data.toList fun i hi => h i (by omega)

theorem smB_implL (l : List UInt8) (h0 : 0 < l.length) (h1 : l.length ≤ 20) : smB l = (isB (l[0].toNat : Int) 2 && allB l [2, 4, 7]) := by
  match l, h0, h1 with
  | c :: r, h0, h1 =>
    have h1' : r.length + 1 ≤ 20 := by simpa using h1
    show smB (c :: r) = (isB (c.toNat : Int) 2 && allB (c :: r) [2, 4, 7])
    simp [smB, h1']

/-- The program's own way to it. -/
theorem smB_impl (s : ByteArray) (h0 : 0 < s.size) (h1 : s.size ≤ 20) : smB s.data.toList = (isB ((s[0]).toNat : Int) 2 && allB s.data.toList [2, 4, 7]) := by
  have e : s.data.toList.length = s.size := Array.length_toList
  exact smB_implL s.data.toList (by omega) (by omega)

theorem smB_longL (l : List UInt8) (h : l.length < 1 ∨ 20 < l.length) : smB l = false := by
  match l, h with
  | [], _ => rfl
  | c :: r, h =>
    have h' : ¬ r.length + 1 ≤ 20 := by simp at h; omega
    simp [smB, h']

theorem smB_long (s : ByteArray) (h : s.size < 1 ∨ 20 < s.size) : smB s.data.toList = false := by
  have e : s.data.toList.length = s.size := Array.length_toList
  exact smB_longL _ (by omega)

end Go.Proofs.YtcgljeagjchobaaGreat.M
namespace Go.Proofs.YtcgljeagjchobaaGreat.M

def propB (p : Pp) : Bool := decide (p.1.size ≤ 20) && (allB p.1.data.toList [0] && (smB p.2.1.data.toList && (decide (p.2.2.size ≤ 20) && allB p.2.2.data.toList [0])))
def lessP (a b : Pp) : Bool := if a.1 = b.1 then lessT a.2.1 b.2.1 else lessT a.1 b.1
def ascB {α : Type} (f : α → α → Bool) : List α → Bool
  | a :: b :: r => f a b && ascB f (b :: r)
  | _ => true
theorem ascB_not {α : Type} (f : α → α → Bool) : ∀ (l : List α) (i : Nat) (h : i + 1 < l.length), f l[i] l[i + 1] = false → ascB f l = false
  | a :: b :: r, 0, h, e => by
    have e' : f a b = false := e
    rw [ascB, e']; rfl
  | a :: b :: r, i + 1, h, e => by
    rw [ascB, ascB_not f (b :: r) i (by simpa using h) (by simpa using e)]
    simp
theorem ascB_all {α : Type} (f : α → α → Bool) : ∀ (l : List α), (∀ (i : Nat) (h : i + 1 < l.length), f l[i] l[i + 1] = true) → ascB f l = true
  | [], _ => rfl
  | [a], _ => rfl
  | a :: b :: r, h => by
    have h0 : f a b = true := h 0 (by simp)
    rw [ascB, h0, ascB_all f (b :: r) (fun i hi => h (i + 1) (by simpa using hi))]
    rfl
def propsB (ps : List Pp) : Bool := decide (ps.length ≤ 4) && (ps.all propB && ascB lessP ps)
theorem propsB_long {ps : List Pp} (h : ¬ ps.length ≤ 4) : propsB ps = false := by unfold propsB; rw [decide_eq_false h]; rfl
theorem propsB_bad {ps : List Pp} (k : Nat) (h : k < ps.length) (e : propB ps[k] = false) : propsB ps = false := by
  unfold propsB
  have : ps.all propB = false := by
    rw [List.all_eq_false]
    exact ⟨_, List.getElem_mem h, by simp [e]⟩
  rw [this]; simp
theorem propsB_desc {ps : List Pp} (k : Nat) (h : k + 1 < ps.length) (e : lessP ps[k] ps[k + 1] = false) : propsB ps = false := by
  unfold propsB
  rw [ascB_not lessP ps k h e]; simp
theorem propsB_of {ps : List Pp} (h : ∀ j (hj : j < ps.length), propB ps[j] = true) : propsB ps = (decide (ps.length ≤ 4) && ascB lessP ps) := by
  unfold propsB
  have : ps.all propB = true := by
    rw [List.all_eq_true]
    intro p hp
    obtain ⟨j, hj, rfl⟩ := List.mem_iff_getElem.1 hp
    exact h j hj
  rw [this]; simp
/-- The first of two that is not nought. -/
def orI (x y : Int) : Int := if x ≠ 0 then x else y
theorem orI_yes {x y : Int} (h : ¬ x = 0) : orI x y = x := by unfold orI; rw [if_pos h]
theorem orI_no {x y : Int} (h : x = 0) : orI x y = y := by unfold orI; rw [if_neg (by simp [h])]
theorem lessP_cmp (a b : Pp) : decide (orI (cmpT a.1 b.1) (cmpT a.2.1 b.2.1) < 0) = lessP a b := by
  unfold lessP orI
  by_cases e : a.1 = b.1
  · rw [if_pos e, e, cmpT_same, if_neg (by simp)]
    exact cmpT_neg _ _
  · rw [if_neg e, if_pos (fun h => e (cmpT_zero _ _ h))]
    exact cmpT_neg _ _
end Go.Proofs.YtcgljeagjchobaaGreat.M
namespace Go.Proofs.YtcgljeagjchobaaGreat
open M

/-- Whether its path is this. -/
def isAt (p : List ByteArray) (r : Rs) : Bool := sameL r.pa p
/-- Its place, or -1. -/
def findI (rs : List Rs) (p : List ByteArray) : Int := if rs.findIdx (isAt p) < rs.length then (rs.findIdx (isAt p) : Int) else -1
theorem findI_at {rs : List Rs} {p : List ByteArray} (k : Nat) (hk : k < rs.length) (h0 : ∀ j (hj : j < rs.length), j < k → sameL rs[j].pa p = false) (h1 : sameL rs[k].pa p = true) : findI rs p = k := by
  have e : rs.findIdx (isAt p) = k := by
    rw [List.findIdx_eq hk]
    exact ⟨h1, fun j hj => h0 j (by omega) hj⟩
  unfold findI
  rw [e, if_pos hk]
theorem findI_none {rs : List Rs} {p : List ByteArray} (h0 : ∀ j (hj : j < rs.length), sameL rs[j].pa p = false) : findI rs p = -1 := by
  unfold findI
  rw [if_neg]
  intro h
  have := List.findIdx_getElem (w := h)
  rw [show isAt p rs[rs.findIdx (isAt p)] = sameL rs[rs.findIdx (isAt p)].pa p from rfl, h0 _ h] at this
  cases this
theorem findI_cases (rs : List Rs) (p : List ByteArray) : findI rs p = -1 ∨ ∃ k, ∃ hk : k < rs.length, findI rs p = (k : Nat) ∧ sameL rs[k].pa p = true := by
  unfold findI
  by_cases h : rs.findIdx (isAt p) < rs.length
  · rw [if_pos h]
    exact .inr ⟨_, h, rfl, List.findIdx_getElem (w := h)⟩
  · rw [if_neg h]; exact .inl rfl
/-- Whether it is the root, or a shelf that is there. -/
def collB (rs : List Rs) (p : List ByteArray) : Bool := decide (p.length = 0) || (match rs.find? (isAt p) with | none => false | some r => r.co)
theorem find_of_findIdx {rs : List Rs} {q : Rs → Bool} (h : rs.findIdx q < rs.length) : rs.find? q = some rs[rs.findIdx q] := by
  induction rs with
  | nil => simp at h
  | cons x l ih =>
    by_cases e : q x = true
    · simp [List.findIdx_cons, e]
    · have e' : q x = false := by simpa using e
      simp only [List.findIdx_cons, e', cond_false, List.length_cons] at h ⊢
      rw [List.find?_cons_of_neg (by simp [e']), ih (by omega)]
      simp
theorem collB_at {rs : List Rs} {p : List ByteArray} (k : Nat) (hk : k < rs.length) (h : findI rs p = k) (hp : ¬ p.length = 0) : collB rs p = rs[k].co := by
  unfold findI at h
  by_cases h' : rs.findIdx (isAt p) < rs.length
  · rw [if_pos h'] at h
    have e : rs.findIdx (isAt p) = k := by omega
    unfold collB
    rw [find_of_findIdx h']
    simp [hp, e]
  · rw [if_neg h'] at h; omega
theorem collB_none {rs : List Rs} {p : List ByteArray} (h : findI rs p = -1) (hp : ¬ p.length = 0) : collB rs p = false := by
  unfold findI at h
  by_cases h' : rs.findIdx (isAt p) < rs.length
  · rw [if_pos h'] at h; omega
  · unfold collB
    have : rs.find? (isAt p) = none := by
      rw [List.find?_eq_none]
      intro x hx hq
      exact h' (List.findIdx_lt_length_of_exists ⟨x, hx, hq⟩)
    rw [this]
    simp [hp]
theorem collB_root {rs : List Rs} {p : List ByteArray} (hp : p.length = 0) : collB rs p = true := by unfold collB; simp [hp]
end Go.Proofs.YtcgljeagjchobaaGreat
namespace Go.Proofs.YtcgljeagjchobaaGreat.M
def aboveL (ss : List ByteArray) : List ByteArray := ss.take (ss.length - 1)
theorem aboveL_len (ss : List ByteArray) : (aboveL ss).length = ss.length - 1 := by unfold aboveL; rw [List.length_take]; omega
end Go.Proofs.YtcgljeagjchobaaGreat.M
namespace Go.Proofs.YtcgljeagjchobaaGreat.M

/-- The digits ahead of the last one. -/
def decAhead (m : Nat) : List UInt8 := if m < 10 then [] else Lib.decDigits (m / 10)
def decLow (m : Nat) : UInt8 := UInt8.ofNat (48 + m % 10)

theorem decDigits_ahead (m : Nat) : Lib.decDigits m = decAhead m ++ [decLow m] := by
  rw [Lib.decDigits]
  unfold decAhead decLow
  by_cases h : m < 10
  · rw [dif_pos h, if_pos h, Nat.mod_eq_of_lt h]; rfl
  · rw [dif_neg h, if_neg h]

theorem decAhead_step (m : Nat) (h : 9 < m) : decAhead m = decAhead (m / 10) ++ [decLow (m / 10)] := by
  rw [← decDigits_ahead]
  unfold decAhead
  rw [if_neg (by omega)]

theorem decAhead_end (m : Nat) (h : ¬ 9 < m) : decAhead m = [] := by
  unfold decAhead
  rw [if_pos (by omega)]

theorem decLow_toNat (m : Nat) : (decLow m).toNat = 48 + m % 10 := by
  unfold decLow
  rw [UInt8.toNat_ofNat']
  omega

/-- A digit to the base 16. -/
def hexCh (d : Nat) : UInt8 := if d < 10 then UInt8.ofNat (48 + d) else UInt8.ofNat (87 + d)
/-- The digits to the base 16, f of them at most. -/
def hexDig : Nat → Nat → List UInt8
  | 0, _ => []
  | f + 1, m => if m < 16 then [hexCh m] else hexDig f (m / 16) ++ [hexCh (m % 16)]
def hexDigits (m : Nat) : List UInt8 := hexDig 16 m
/-- The digits ahead of the last one. -/
def hexAhead (f m : Nat) : List UInt8 := if m < 16 then [] else hexDig f (m / 16)

theorem hexDig_ahead (f m : Nat) : hexDig (f + 1) m = hexAhead f m ++ [hexCh (m % 16)] := by
  unfold hexAhead
  simp only [hexDig]
  by_cases h : m < 16
  · rw [if_pos h, if_pos h, Nat.mod_eq_of_lt h]; rfl
  · rw [if_neg h, if_neg h]

theorem hexAhead_step (f m : Nat) (h : 15 < m) : hexAhead (f + 1) m = hexAhead f (m / 16) ++ [hexCh (m / 16 % 16)] := by
  rw [← hexDig_ahead]
  unfold hexAhead
  rw [if_neg (by omega)]

theorem hexAhead_end (f m : Nat) (h : ¬ 15 < m) : hexAhead f m = [] := by
  unfold hexAhead
  rw [if_pos (by omega)]

theorem hexCh_toNat (d : Nat) (h : d < 16) : (hexCh d).toNat = if d < 10 then 48 + d else 87 + d := by
  unfold hexCh
  split
  · rw [UInt8.toNat_ofNat']; omega
  · rw [UInt8.toNat_ofNat']; omega

end Go.Proofs.YtcgljeagjchobaaGreat.M
namespace Go.Proofs.YtcgljeagjchobaaGreat.M

/-- The worth of decimal digits, the first one the greatest, behind a number. -/
def decValF (n : Nat) (l : List UInt8) : Nat := l.foldl (fun n c => n * 10 + (c.toNat - 48)) n
def decVal (l : List UInt8) : Nat := decValF 0 l

theorem decVal_snoc (l : List UInt8) (c : UInt8) : decVal (l ++ [c]) = decVal l * 10 + (c.toNat - 48) := by
  simp [decVal, decValF]

def digs (l : List UInt8) : Bool := allB l [4]

theorem digs_cons (c : UInt8) (r : List UInt8) : digs (c :: r) = true → (48 ≤ c.toNat ∧ c.toNat ≤ 57) ∧ digs r = true := by
  intro h
  have h1 : isB (c.toNat : Int) 4 = true ∧ digs r = true := by simpa [digs, allB, anyB] using h
  refine ⟨?_, h1.2⟩
  have := h1.1; simp [isB] at this; omega

theorem decFrom_val (l : List UInt8) : ∀ n, digs l = true → Lib.decFrom n l = some (decValF n l) := by
  induction l with
  | nil => intro n _; rfl
  | cons c r ih =>
    intro n h
    obtain ⟨h1, h2⟩ := digs_cons c r h
    have hd : Lib.digitVal c = some (c.toNat - 48) := by unfold Lib.digitVal; rw [if_pos h1]
    simp only [Lib.decFrom, hd]
    exact ih _ h2

theorem atoi_val (l : List UInt8) (h : digs l = true) (h0 : 1 ≤ l.length) : Lib.atoi l = some (decVal l : Int) := by
  match l, h, h0 with
  | c :: r, h, _ =>
    obtain ⟨h1, _⟩ := digs_cons c r h
    have e45 : (c == 45) = false := by
      rw [beq_eq_false_iff_ne]; intro e; subst e; exact absurd h1.1 (by decide)
    have e43 : (c == 43) = false := by
      rw [beq_eq_false_iff_ne]; intro e; subst e; exact absurd h1.1 (by decide)
    simp only [Lib.atoi, e45, e43]
    simp [Lib.decNat, decFrom_val _ _ h, decVal]

theorem decVal_lt (l : List UInt8) (h : digs l = true) : decVal l < 10 ^ l.length := by
  have := Lib.decFrom_lt l 0 _ (decFrom_val l 0 h)
  simpa [decVal] using this

theorem pow_le8 {k : Nat} (h : k ≤ 8) : 10 ^ k ≤ 100000000 := by
  have := Nat.pow_le_pow_right (show 0 < 10 by decide) h
  exact this

/-- What ParseNum answers. -/
def parseOk (l : List UInt8) (most : Int) : Prop := 1 ≤ l.length ∧ l.length ≤ 7 ∧ digs l = true ∧ ¬ (1 < l.length ∧ l.head? = some 48) ∧ (decVal l : Int) ≤ most
def parseB (l : List UInt8) (most : Int) : Bool := decide (1 ≤ l.length) && (decide (l.length ≤ 7) && (digs l && (!(decide (1 < l.length) && l.head? == some 48) && decide ((decVal l : Int) ≤ most))))
theorem parseB_iff (l : List UInt8) (most : Int) : parseB l most = true ↔ parseOk l most := by
  simp only [parseB, parseOk, Bool.and_eq_true, decide_eq_true_eq, Bool.not_eq_true', Bool.and_eq_false_iff, decide_eq_false_iff_not]
  constructor
  · rintro ⟨a, b, c, d, e⟩
    refine ⟨a, b, c, ?_, e⟩
    rintro ⟨x, y⟩
    rcases d with d | d
    · exact d x
    · simp [y] at d
  · rintro ⟨a, b, c, d, e⟩
    refine ⟨a, b, c, ?_, e⟩
    by_cases x : 1 < l.length
    · right
      rw [beq_eq_false_iff_ne]
      exact fun y => d ⟨x, y⟩
    · exact .inl x
def parseNum (l : List UInt8) (most : Int) : Int × Bool := if parseB l most then ((decVal l : Int), true) else (0, false)
theorem parseNum_no {l : List UInt8} {most : Int} (h : ¬ parseOk l most) : parseNum l most = (0, false) := if_neg (fun e => h ((parseB_iff l most).1 e))
theorem parseNum_yes {l : List UInt8} {most : Int} (h : parseOk l most) : parseNum l most = ((decVal l : Int), true) := if_pos ((parseB_iff l most).2 h)

theorem digs_snoc (s : ByteArray) (k : Nat) (h : k < s.size) (h0 : digs (s.data.toList.take k) = true) (h2 : isB (s[k].toNat : Int) 4 = true) : digs (s.data.toList.take (k + 1)) = true :=
  allB_snoc s [4] k h h0 (by rw [anyB_one, h2]; rfl)
theorem digs_not (s : ByteArray) (k : Nat) (h : k < s.size) (h2 : isB (s[k].toNat : Int) 4 = false) : digs s.data.toList = false :=
  allB_not s [4] k h (by rw [anyB_one, h2]; rfl)
theorem decVal_step (s : ByteArray) (k : Nat) (h : k < s.size) : decVal (s.data.toList.take (k + 1)) = decVal (s.data.toList.take k) * 10 + (s[k].toNat - 48) := by
  rw [take_snoc s k h, decVal_snoc]
theorem isB4 {c : Int} (h : isB c 4 = true) : 48 ≤ c ∧ c ≤ 57 := by simp [isB] at h; omega
theorem head_get (s : ByteArray) (h : 0 < s.size) : s.data.toList.head? = some s[0] := by
  have e : s.data.toList.length = s.size := Array.length_toList
  rw [List.head?_eq_getElem?, List.getElem?_eq_getElem (by omega)]; rfl
theorem len_list (s : ByteArray) : s.data.toList.length = s.size := Array.length_toList

theorem not_size {s : ByteArray} {most : Int} (h : inB (s.size : Int) 1 7 = false) : ¬ parseOk s.data.toList most := by
  intro hp
  have e := len_list s
  have h1 : 1 ≤ s.size ∧ s.size ≤ 7 := by have := hp.1; have := hp.2.1; omega
  simp [inB] at h
  omega
theorem not_nought {s : ByteArray} {most : Int} (h0 : 0 < s.size) (h1 : 1 < s.size) (hz : (((s[0]).toNat : Int) == 48) = true) : ¬ parseOk s.data.toList most := by
  intro hp
  refine hp.2.2.2.1 ⟨by rw [len_list]; exact h1, ?_⟩
  rw [head_get s h0]
  have : (s[0]).toNat = 48 := by simp at hz; omega
  congr 1
  exact UInt8.toNat_inj.1 this
theorem not_most {l : List UInt8} {most : Int} (h : most < (decVal l : Int)) : ¬ parseOk l most := fun hp => by have := hp.2.2.2.2; omega
theorem not_digs {l : List UInt8} {most : Int} (h : digs l = false) : ¬ parseOk l most := fun hp => by have := hp.2.2.1; rw [h] at this; cases this
theorem is_ok {s : ByteArray} {most : Int} (h0 : 0 < s.size) (h : inB (s.size : Int) 1 7 = true) (hd : digs s.data.toList = true) (hz : 1 < s.size → (((s[0]).toNat : Int) == 48) = false) (hm : ¬ most < (decVal s.data.toList : Int)) : parseOk s.data.toList most := by
  have e := len_list s
  have h1 : 1 ≤ s.size ∧ s.size ≤ 7 := by simp [inB] at h; omega
  refine ⟨by omega, by omega, hd, ?_, by omega⟩
  rintro ⟨h2, h3⟩
  rw [head_get s h0] at h3
  have h4 := hz (by omega)
  have h5 : s[0] = 48 := Option.some.inj h3
  rw [h5] at h4
  simp at h4

end Go.Proofs.YtcgljeagjchobaaGreat.M
namespace Go.Proofs.YtcgljeagjchobaaGreat.M

/-- The worth of a digit to the base 16. -/
def hexW (c : UInt8) : Nat := if isB (c.toNat : Int) 4 then c.toNat - 48 else if isB (c.toNat : Int) 5 then c.toNat - 87 else c.toNat - 55
def isHex (c : UInt8) : Bool := anyB (c.toNat : Int) [4, 5, 6]
def hexVal (l : List UInt8) : Nat := l.foldl (fun n c => n * 16 + hexW c) 0
def hexs (l : List UInt8) : Bool := allB l [4, 5, 6]

theorem hexVal_snoc (l : List UInt8) (c : UInt8) : hexVal (l ++ [c]) = hexVal l * 16 + hexW c := by
  simp [hexVal]

theorem isHex_cases {c : UInt8} (h : isHex c = true) : isB (c.toNat : Int) 4 = true ∨ (isB (c.toNat : Int) 4 = false ∧ isB (c.toNat : Int) 5 = true) ∨ (isB (c.toNat : Int) 4 = false ∧ isB (c.toNat : Int) 5 = false ∧ isB (c.toNat : Int) 6 = true) := by
  unfold isHex anyB at h
  cases h4 : isB (c.toNat : Int) 4 <;> cases h5 : isB (c.toNat : Int) 5 <;> cases h6 : isB (c.toNat : Int) 6 <;> simp_all

theorem isB5 {c : Int} (h : isB c 5 = true) : 97 ≤ c ∧ c ≤ 102 := by simp [isB] at h; omega
theorem isB6 {c : Int} (h : isB c 6 = true) : 65 ≤ c ∧ c ≤ 70 := by simp [isB] at h; omega

theorem hexW_4 {c : UInt8} (h : isB (c.toNat : Int) 4 = true) : hexW c = c.toNat - 48 := by simp [hexW, h]
theorem hexW_5 {c : UInt8} (h4 : isB (c.toNat : Int) 4 = false) (h : isB (c.toNat : Int) 5 = true) : hexW c = c.toNat - 87 := by simp [hexW, h4, h]
theorem hexW_6 {c : UInt8} (h4 : isB (c.toNat : Int) 4 = false) (h5 : isB (c.toNat : Int) 5 = false) : hexW c = c.toNat - 55 := by simp [hexW, h4, h5]

theorem hexW_lt {c : UInt8} (h : isHex c = true) : hexW c < 16 := by
  rcases isHex_cases h with h4 | ⟨h4, h5⟩ | ⟨h4, h5, h6⟩
  · have := isB4 h4; rw [hexW_4 h4]; omega
  · have := isB5 h5; rw [hexW_5 h4 h5]; omega
  · have := isB6 h6; rw [hexW_6 h4 h5]; omega

theorem hexs_get (s : ByteArray) (h : hexs s.data.toList = true) (k : Nat) (hk : k < s.size) : isHex s[k] = true := by
  have h1 := (List.all_eq_true.1 h) s[k] (by
    have e := len_list s
    have h' : k < s.data.toList.length := by omega
    exact List.getElem_mem h')
  exact h1

theorem hexs_snoc (s : ByteArray) (k : Nat) (h : k < s.size) (h0 : hexs (s.data.toList.take k) = true) (h2 : isHex s[k] = true) : hexs (s.data.toList.take (k + 1)) = true :=
  allB_snoc s [4, 5, 6] k h h0 (by rw [show anyB (s[k].toNat : Int) [4, 5, 6] = true from h2]; rfl)
theorem hexs_not (s : ByteArray) (k : Nat) (h : k < s.size) (h2 : isHex s[k] = false) : hexs s.data.toList = false :=
  allB_not s [4, 5, 6] k h (by rw [show anyB (s[k].toNat : Int) [4, 5, 6] = false from h2]; rfl)
theorem hexVal_step (s : ByteArray) (k : Nat) (h : k < s.size) : hexVal (s.data.toList.take (k + 1)) = hexVal (s.data.toList.take k) * 16 + hexW s[k] := by
  rw [take_snoc s k h, hexVal_snoc]

theorem hexVal_lt (s : ByteArray) (k : Nat) (hk : k ≤ s.size) (h : hexs (s.data.toList.take k) = true) : hexVal (s.data.toList.take k) < 16 ^ k := by
  induction k with
  | zero => simp [hexVal]
  | succ k ih =>
    have hk' : k < s.size := by omega
    have h1 : hexs (s.data.toList.take k) = true ∧ isHex s[k] = true := by
      rw [take_snoc s k hk'] at h
      simpa [hexs, allB, isHex] using h
    have := ih (by omega) h1.1
    have := hexW_lt h1.2
    rw [hexVal_step s k hk', Nat.pow_succ]
    omega

theorem pow16_le {k : Nat} (h : k ≤ 5) : 16 ^ k ≤ 1048576 := Nat.pow_le_pow_right (show 0 < 16 by decide) h

/-- What ParseHex answers. -/
def hexB (l : List UInt8) : Bool := decide (1 ≤ l.length) && (decide (l.length ≤ 4) && hexs l)
def parseHex (l : List UInt8) : Int × Bool := if hexB l then ((hexVal l : Int), true) else (0, false)
theorem parseHex_yes {s : ByteArray} (h : inB (s.size : Int) 1 4 = true) (hd : hexs s.data.toList = true) : parseHex s.data.toList = ((hexVal s.data.toList : Int), true) := by
  have e := len_list s
  have h1 : 1 ≤ s.size ∧ s.size ≤ 4 := by simp [inB] at h; omega
  apply if_pos
  simp only [hexB, hd, Bool.and_true, Bool.and_eq_true, decide_eq_true_eq]
  omega
theorem parseHex_size {s : ByteArray} (h : inB (s.size : Int) 1 4 = false) : parseHex s.data.toList = (0, false) := by
  have e := len_list s
  have h1 : ¬ (1 ≤ s.size ∧ s.size ≤ 4) := by simp [inB] at h; omega
  apply if_neg
  intro hp
  simp only [hexB, Bool.and_eq_true, decide_eq_true_eq] at hp
  omega
theorem parseHex_no {l : List UInt8} (h : hexs l = false) : parseHex l = (0, false) := by
  apply if_neg
  simp [hexB, h]

/-- The specification's digit: below 0 where it is none. -/
def hexOf (c : UInt8) : Int := if isHex c then (hexW c : Int) else -1
theorem hexOf_yes {c : UInt8} (h : isHex c = true) : hexOf c = (hexW c : Int) := if_pos h
theorem hexOf_no {c : UInt8} (h : isHex c = false) : hexOf c = -1 := if_neg (by simp [h])

end Go.Proofs.YtcgljeagjchobaaGreat.M
namespace Go.Proofs.YtcgljeagjchobaaGreat.M

/-- The byte of two digits. -/
def hx (a b : UInt8) : UInt8 := UInt8.ofNat (hexW a * 16 + hexW b)

theorem u8_37 {c : UInt8} (h : ((c.toNat : Int) == 37) = true) : c = 37 := by
  have h' : c.toNat = 37 := by simp at h; omega
  exact UInt8.toNat_inj.1 (by rw [h']; rfl)

/-- What these bytes are, unquoted. -/
def unq : List UInt8 → Option (List UInt8)
  | [] => some []
  | c :: r => if c = 37 then
      (match r with
       | a :: b :: q => if isHex a && isHex b then (unq q).map (hx a b :: ·) else none
       | _ => none)
    else (unq r).map (c :: ·)

/-- .. as the two answers. -/
def unqR (l : List UInt8) : List UInt8 × Bool := match unq l with | some x => (x, true) | none => ([], false)

theorem unq_plain {c : UInt8} (r : List UInt8) (h : ¬ c = 37) : unq (c :: r) = (unq r).map (c :: ·) := by
  rw [unq.eq_def]; simp only [h, if_false]
theorem unq_short {c : UInt8} (r : List UInt8) (h : c = 37) (hr : r.length < 2) : unq (c :: r) = none := by
  rw [unq.eq_def]; simp only [h, if_true]
  match r, hr with
  | [], _ => rfl
  | [_], _ => rfl
theorem unq_bad {c a b : UInt8} (q : List UInt8) (h : c = 37) (hb : (isHex a && isHex b) = false) : unq (c :: a :: b :: q) = none := by
  rw [unq.eq_def]; simp [h, hb]
theorem unq_hex {c a b : UInt8} (q : List UInt8) (h : c = 37) (ha : isHex a = true) (hb : isHex b = true) : unq (c :: a :: b :: q) = (unq q).map (hx a b :: ·) := by
  rw [unq.eq_def]; simp [h, ha, hb]

theorem drop_at (s : ByteArray) (k : Nat) (h : k < s.size) : s.data.toList.drop k = s[k] :: s.data.toList.drop (k + 1) := by
  have e : s.data.toList.length = s.size := Array.length_toList
  rw [List.drop_eq_getElem_cons (by omega)]
  rfl

theorem drop_end (s : ByteArray) (k : Nat) (h : ¬ k < s.size) : s.data.toList.drop k = [] := by
  have e : s.data.toList.length = s.size := Array.length_toList
  exact List.drop_of_length_le (by omega)

/-- What is read so far, and what is left: together all. -/
def UnqAt (s : ByteArray) (k : Nat) (acc : List UInt8) : Prop := k ≤ s.size ∧ acc.length ≤ k ∧ unq s.data.toList = (unq (s.data.toList.drop k)).map (acc ++ ·)

theorem UnqAt.start (s : ByteArray) : UnqAt s 0 [] := ⟨Nat.zero_le _, Nat.le_refl _, by simp⟩

theorem UnqAt.plain {s : ByteArray} {k : Nat} {acc : List UInt8} (h : UnqAt s k acc) (hk : k < s.size) (hc : ¬ s[k] = 37) : UnqAt s (k + 1) (acc ++ [s[k]]) := by
  obtain ⟨h1, h2, h3⟩ := h
  refine ⟨by omega, by simp; omega, ?_⟩
  rw [h3, drop_at s k hk, unq_plain _ hc, Option.map_map]
  congr 1
  funext x
  simp [Function.comp]

theorem UnqAt.hex {s : ByteArray} {k : Nat} {acc : List UInt8} (h : UnqAt s k acc) (hk : k + 2 < s.size) (hc : s[k] = 37) (ha : isHex s[k + 1] = true) (hb : isHex s[k + 2] = true) : UnqAt s (k + 3) (acc ++ [hx s[k + 1] s[k + 2]]) := by
  obtain ⟨h1, h2, h3⟩ := h
  refine ⟨by omega, by simp; omega, ?_⟩
  rw [h3, drop_at s k (by omega), drop_at s (k + 1) (by omega), drop_at s (k + 2) (by omega), unq_hex _ hc ha hb, Option.map_map]
  congr 1
  funext x
  simp [Function.comp]

theorem UnqAt.short {s : ByteArray} {k : Nat} {acc : List UInt8} (h : UnqAt s k acc) (hk : k < s.size) (hc : s[k] = 37) (hl : s.size ≤ k + 2) : unqR s.data.toList = ([], false) := by
  obtain ⟨h1, h2, h3⟩ := h
  have e : s.data.toList.length = s.size := Array.length_toList
  unfold unqR
  rw [h3, drop_at s k hk, unq_short _ hc (by rw [List.length_drop]; omega)]
  rfl

theorem UnqAt.bad {s : ByteArray} {k : Nat} {acc : List UInt8} (h : UnqAt s k acc) (hk : k + 2 < s.size) (hc : s[k] = 37) (hb : (isHex s[k + 1] && isHex s[k + 2]) = false) : unqR s.data.toList = ([], false) := by
  obtain ⟨h1, h2, h3⟩ := h
  unfold unqR
  rw [h3, drop_at s k (by omega), drop_at s (k + 1) (by omega), drop_at s (k + 2) (by omega), unq_bad _ hc hb]
  rfl

theorem UnqAt.done {s : ByteArray} {k : Nat} {acc : List UInt8} (h : UnqAt s k acc) (hk : ¬ k < s.size) : unqR s.data.toList = (acc, true) := by
  obtain ⟨h1, h2, h3⟩ := h
  unfold unqR
  rw [h3, drop_end s k hk]
  simp [unq]

theorem hx_nat {a b : UInt8} (ha : isHex a = true) (hb : isHex b = true) : ((hx a b).toNat : Int) = (hexW a : Int) * 16 + hexW b := by
  have h1 := hexW_lt ha
  have h2 := hexW_lt hb
  unfold hx
  rw [UInt8.toNat_ofNat']
  omega

theorem extract_two (s : ByteArray) (k : Nat) (h : k + 2 < s.size) : (s.extract (k + 1) (k + 3)).data.toList = [s[k + 1], s[k + 2]] := by
  have e : s.data.toList.length = s.size := Array.length_toList
  have h1 : (s.extract (k + 1) (k + 3)).data = s.data.extract (k + 1) (k + 3) := by simp
  rw [h1, Array.toList_extract]
  show (s.data.toList.drop (k + 1)).take (k + 3 - (k + 1)) = _
  rw [drop_at s (k + 1) (by omega), drop_at s (k + 2) (by omega), show k + 3 - (k + 1) = 2 by omega]
  rfl

theorem parseHex_two (a b : UInt8) : parseHex [a, b] = if (isHex a && isHex b) then ((hexW a : Int) * 16 + hexW b, true) else (0, false) := by
  have hh : hexs [a, b] = (isHex a && isHex b) := by simp [hexs, allB, isHex]
  unfold parseHex hexB
  rw [hh]
  cases h : (isHex a && isHex b)
  · simp
  · simp [hexVal]
end Go.Proofs.YtcgljeagjchobaaGreat.M
namespace Go.Proofs.YtcgljeagjchobaaGreat.M

theorem digL_hex : ∀ n : Fin 16, isHex (digL n.val) = true ∧ hexW (digL n.val) = n.val := by decide

theorem free_not37 : freeB 37 = false := by decide

theorem hx_back (c : UInt8) : hx (digL (c.toNat / 16)) (digL (c.toNat % 16)) = c := by
  have h := c.toNat_lt
  have h1 := (digL_hex ⟨c.toNat / 16, by omega⟩).2
  have h2 := (digL_hex ⟨c.toNat % 16, by omega⟩).2
  simp only at h1 h2
  unfold hx
  rw [h1, h2]
  have e : c.toNat / 16 * 16 + c.toNat % 16 = c.toNat := by omega
  rw [e]
  exact UInt8.ofNat_toNat

theorem unq_quote (l : List UInt8) : unq (quoteL l) = some l := by
  induction l with
  | nil => rfl
  | cons c r ih =>
    have e : quoteL (c :: r) = quoteB c ++ quoteL r := by simp [quoteL]
    rw [e]
    cases hf : freeB (c.toNat : Int)
    · rw [quoteB_no hf]
      have h := c.toNat_lt
      have h1 := (digL_hex ⟨c.toNat / 16, by omega⟩).1
      have h2 := (digL_hex ⟨c.toNat % 16, by omega⟩).1
      show unq (37 :: digL (c.toNat / 16) :: digL (c.toNat % 16) :: quoteL r) = _
      rw [unq_hex _ rfl h1 h2, ih, hx_back]
      rfl
    · rw [quoteB_yes hf]
      have hc : ¬ c = 37 := fun e => by rw [e] at hf; exact absurd hf (by decide)
      show unq (c :: quoteL r) = _
      rw [unq_plain _ hc, ih]
      rfl

theorem unqR_quote (l : List UInt8) : unqR (quoteL l) = (l, true) := by unfold unqR; rw [unq_quote]

theorem digL_plain : ∀ n : Fin 16, anyB ((digL n.val).toNat : Int) [0] = true := by decide

theorem free_plain {c : Int} (h : freeB c = true) : anyB c [0] = true := by
  simp only [freeB, isB, anyB, List.any_cons, List.any_nil] at h ⊢
  simp at h ⊢
  omega

theorem quote_plain (l : List UInt8) : allB (quoteL l) [0] = true := by
  induction l with
  | nil => rfl
  | cons c r ih =>
    have e : quoteL (c :: r) = quoteB c ++ quoteL r := by simp [quoteL]
    rw [e]
    unfold allB at ih ⊢
    rw [List.all_append, ih, Bool.and_true]
    cases hf : freeB (c.toNat : Int)
    · rw [quoteB_no hf]
      have h := c.toNat_lt
      have h1 := digL_plain ⟨c.toNat / 16, by omega⟩
      have h2 := digL_plain ⟨c.toNat % 16, by omega⟩
      simp only at h1 h2
      simp only [List.all_cons, List.all_nil, h1, h2, Bool.and_true]
      decide
    · rw [quoteB_yes hf]
      simp only [List.all_cons, List.all_nil, free_plain hf, Bool.and_true]
end Go.Proofs.YtcgljeagjchobaaGreat.M
namespace Go.Proofs.YtcgljeagjchobaaGreat.M

/-- A text, cut at every slash. -/
def cuts : List UInt8 → List (List UInt8)
  | [] => [[]]
  | c :: r => if c = 47 then [] :: cuts r else (match cuts r with | [] => [[c]] | x :: q => (c :: x) :: q)

theorem cuts_ne (l : List UInt8) : cuts l ≠ [] := by
  cases l with
  | nil => simp [cuts]
  | cons c r =>
    unfold cuts
    split
    · simp
    · split <;> simp

theorem cuts_none (a : List UInt8) (h : 47 ∉ a) : cuts a = [a] := by
  induction a with
  | nil => rfl
  | cons c r ih =>
    have h1 : ¬ c = 47 := fun e => h (by simp [e])
    have h2 : 47 ∉ r := fun e => h (List.mem_cons_of_mem _ e)
    unfold cuts
    rw [if_neg h1, ih h2]

theorem cuts_app (a r : List UInt8) (h : 47 ∉ a) : cuts (a ++ 47 :: r) = a :: cuts r := by
  induction a with
  | nil => simp [cuts]
  | cons c q ih =>
    have h1 : ¬ c = 47 := fun e => h (by simp [e])
    have h2 : 47 ∉ q := fun e => h (List.mem_cons_of_mem _ e)
    rw [List.cons_append, cuts, if_neg h1, ih h2]

theorem indexByte_cases (l : List UInt8) (c : UInt8) : (Lib.indexByte l c = -1 ∧ c ∉ l) ∨ ∃ a r, l = a ++ c :: r ∧ c ∉ a ∧ Lib.indexByte l c = a.length := by
  induction l with
  | nil => left; exact ⟨rfl, by simp⟩
  | cons b l ih =>
    by_cases hb : b = c
    · right
      refine ⟨[], l, by simp [hb], by simp, ?_⟩
      unfold Lib.indexByte; simp [hb]
    · rcases ih with ⟨h1, h2⟩ | ⟨a, r, rfl, h2, h3⟩
      · left
        refine ⟨?_, by simp [h2, Ne.symm hb]⟩
        unfold Lib.indexByte; simp [hb, h1]
      · right
        refine ⟨b :: a, r, rfl, by simp [h2, Ne.symm hb], ?_⟩
        unfold Lib.indexByte
        rw [h3]
        have : ¬ ((a.length : Int) = -1) := by omega
        simp [hb, this]

theorem splitK_cuts : ∀ (n : Nat) (l : List UInt8), l.length ≤ n → Lib.splitK [47] 0 (l.count 47) l = cuts l := by
  intro n
  induction n with
  | zero =>
    intro l hl
    have : l = [] := List.length_eq_zero_iff.1 (by omega)
    subst this; rfl
  | succ n ih =>
    intro l hl
    rcases indexByte_cases l 47 with ⟨_, h2⟩ | ⟨a, r, rfl, h2, h3⟩
    · rw [List.count_eq_zero.2 h2, cuts_none l h2]; rfl
    · have hc : (a ++ 47 :: r).count 47 = r.count 47 + 1 := by
        rw [List.count_append, List.count_eq_zero.2 h2, List.count_cons]; simp
      have hi : Lib.index (a ++ 47 :: r) [47] = (a.length : Int) := by rw [Lib.index_one, h3]
      have hne : ¬ ((a.length : Int) == -1) = true := fun e => by have := beq_iff_eq.1 e; omega
      rw [hc, cuts_app a r h2, Lib.splitK, hi, if_neg hne]
      have e1 : (a ++ 47 :: r).take ((a.length : Int).toNat + 0) = a := by simp
      have e2 : (a ++ 47 :: r).drop ((a.length : Int).toNat + [(47 : UInt8)].length) = r := by
        have : ((a.length : Int).toNat + [(47 : UInt8)].length) = a.length + 1 := by simp
        rw [this, ← List.drop_drop, List.drop_left]; rfl
      rw [e1, e2, ih r (by simp at hl; omega)]

/-- The pieces of a text, as texts. -/
def piecesL (l : List UInt8) : List ByteArray := (cuts l).map bytesOf

theorem split_pieces (s : ByteArray) : Lib.splitB ⟨#[47]⟩ 0 (s.data.toList.count 47) s = piecesL s.data.toList := by
  have h := Lib.splitB_data ⟨#[47]⟩ 0 (s.data.toList.count 47) s
  have h' : (Lib.splitB ⟨#[47]⟩ 0 (s.data.toList.count 47) s).map (·.data.toList) = cuts s.data.toList := h.trans (splitK_cuts _ _ (Nat.le_refl _))
  unfold piecesL
  rw [← h', List.map_map]
  have e : (bytesOf ∘ fun x : ByteArray => x.data.toList) = id := by funext x; simp [bytesOf]
  rw [e, List.map_id]

theorem cuts_length (l : List UInt8) : (cuts l).length = l.count 47 + 1 := by
  induction l with
  | nil => rfl
  | cons c r ih =>
    unfold cuts
    by_cases h : c = 47
    · simp [h, ih]
    · rw [if_neg h]
      have h1 : (c :: r).count 47 = r.count 47 := by rw [List.count_cons]; simp [h]
      rw [h1, ← ih]
      have := cuts_ne r
      cases hc : cuts r with
      | nil => exact absurd hc this
      | cons x q => rfl

theorem cuts_le (l : List UInt8) : ∀ x ∈ cuts l, x.length ≤ l.length := by
  induction l with
  | nil => intro x hx; simp [cuts] at hx; simp [hx]
  | cons c r ih =>
    intro x hx
    unfold cuts at hx
    by_cases h : c = 47
    · rw [if_pos h] at hx
      rcases List.mem_cons.1 hx with rfl | hx
      · simp
      · have := ih x hx; simp; omega
    · rw [if_neg h] at hx
      cases hc : cuts r with
      | nil => exact absurd hc (cuts_ne r)
      | cons y q =>
        rw [hc] at hx
        rcases List.mem_cons.1 hx with rfl | hx
        · have := ih y (by rw [hc]; simp); simp; omega
        · have := ih x (by rw [hc]; exact List.mem_cons_of_mem _ hx); simp; omega

theorem piecesL_short (l : List UInt8) (s : ByteArray) (h : s ∈ piecesL l) : s.size ≤ l.length := by
  unfold piecesL at h
  obtain ⟨x, hx, rfl⟩ := List.mem_map.1 h
  rw [bytesOf_size]; exact cuts_le l x hx
theorem piecesL_length (l : List UInt8) : (piecesL l).length = l.count 47 + 1 := by
  unfold piecesL; rw [List.length_map, cuts_length]

/-! What is walked of the pieces. -/

theorem unq_le : ∀ (n : Nat) (l x : List UInt8), l.length ≤ n → unq l = some x → x.length ≤ l.length := by
  intro n
  induction n with
  | zero =>
    intro l x hl h
    have : l = [] := List.length_eq_zero_iff.1 (by omega)
    subst this
    simp [unq] at h; simp [h]
  | succ n ih =>
    intro l x hl h
    cases l with
    | nil => simp [unq] at h; simp [h]
    | cons c r =>
      by_cases hc : c = 37
      · match r, hl, h with
        | [], _, h => rw [unq_short _ hc (by simp)] at h; cases h
        | [_], _, h => rw [unq_short _ hc (by simp)] at h; cases h
        | a :: b :: q, hl, h =>
          cases hh : (isHex a && isHex b)
          · rw [unq_bad _ hc hh] at h; cases h
          · rw [Bool.and_eq_true] at hh
            rw [unq_hex _ hc hh.1 hh.2] at h
            obtain ⟨y, hy, rfl⟩ := Option.map_eq_some_iff.1 h
            have := ih q y (by simp at hl; omega) hy
            simp; omega
      · rw [unq_plain _ hc] at h
        obtain ⟨y, hy, rfl⟩ := Option.map_eq_some_iff.1 h
        have := ih r y (by simp at hl; omega) hy
        simp; omega

theorem unqR_le (l : List UInt8) : (unqR l).1.length ≤ l.length := by
  unfold unqR
  cases h : unq l with
  | none => simp
  | some x => exact unq_le _ l x (Nat.le_refl _) h

theorem unqR_nil : unqR [] = ([], true) := rfl

theorem unqR_empty {l : List UInt8} (h : (unqR l).2 = true) (h1 : (unqR l).1 = []) : l = [] := by
  cases l with
  | nil => rfl
  | cons c r =>
    exfalso
    unfold unqR at h h1
    by_cases hc : c = 37
    · match r, h, h1 with
      | [], h, _ => rw [unq_short _ hc (by simp)] at h; cases h
      | [_], h, _ => rw [unq_short _ hc (by simp)] at h; cases h
      | a :: b :: q, h, h1 =>
        cases hh : (isHex a && isHex b)
        · rw [unq_bad _ hc hh] at h; cases h
        · rw [Bool.and_eq_true] at hh
          rw [unq_hex _ hc hh.1 hh.2] at h h1
          cases hq : unq q with
          | none => rw [hq] at h; cases h
          | some y => rw [hq] at h1; simp at h1
    · rw [unq_plain _ hc] at h h1
      cases hq : unq r with
      | none => rw [hq] at h; cases h
      | some y => rw [hq] at h1; simp at h1

/-- One piece more: taken up, passed by, or one taken away; none where it cannot be. -/
def stepP (out : List ByteArray) (p : ByteArray) : Option (List ByteArray) :=
  if (unqR p.data.toList).2 = false ∨ (unqR p.data.toList).1 = [] then none
  else if (unqR p.data.toList).1 = [46] then some out
  else if (unqR p.data.toList).1 = [46, 46] then (if out = [] then none else some out.dropLast)
  else some (out ++ [bytesOf (unqR p.data.toList).1])
def foldP : List ByteArray → List ByteArray → Option (List ByteArray)
  | out, [] => some out
  | out, p :: r => (stepP out p).bind fun o => foldP o r

theorem foldP_at {ps : List ByteArray} (k : Nat) (h : k < ps.length) (out : List ByteArray) : foldP out (ps.drop k) = (stepP out ps[k]).bind fun o => foldP o (ps.drop (k + 1)) := by
  rw [List.drop_eq_getElem_cons h]; rfl

/-- The last piece goes where it is empty. -/
def strip (ps : List ByteArray) : List ByteArray := if ps.getLast? = some (bytesOf []) then ps.dropLast else ps

/-- What ParsePath tells, as the document has it. -/
def parseP (l : List UInt8) : List ByteArray × Bool :=
  if l.head? = some 47 then
    (match foldP [] (strip (piecesL (l.drop 1))) with
     | some ns => if pathB ns then (ns, true) else ([], false)
     | none => ([], false))
  else ([], false)

theorem parseP_head {l : List UInt8} (h : ¬ l.head? = some 47) : parseP l = ([], false) := by unfold parseP; rw [if_neg h]
theorem parseP_none {l : List UInt8} (h : l.head? = some 47) (hf : foldP [] (strip (piecesL (l.drop 1))) = none) : parseP l = ([], false) := by unfold parseP; rw [if_pos h, hf]
theorem parseP_not {l : List UInt8} {ns : List ByteArray} (h : l.head? = some 47) (hf : foldP [] (strip (piecesL (l.drop 1))) = some ns) (hp : pathB ns = false) : parseP l = ([], false) := by unfold parseP; rw [if_pos h, hf]; simp [hp]
theorem parseP_yes {l : List UInt8} {ns : List ByteArray} (h : l.head? = some 47) (hf : foldP [] (strip (piecesL (l.drop 1))) = some ns) (hp : pathB ns = true) : parseP l = (ns, true) := by unfold parseP; rw [if_pos h, hf]; simp [hp]

theorem stepP_none {out : List ByteArray} {p : ByteArray} (h : (unqR p.data.toList).2 = false ∨ (unqR p.data.toList).1 = []) : stepP out p = none := by unfold stepP; rw [if_pos h]
theorem stepP_dot {out : List ByteArray} {p : ByteArray} (h : (unqR p.data.toList).2 = true) (h1 : (unqR p.data.toList).1 = [46]) : stepP out p = some out := by unfold stepP; rw [if_neg (by simp [h, h1]), if_pos h1]
theorem stepP_up0 {p : ByteArray} (h : (unqR p.data.toList).2 = true) (h1 : (unqR p.data.toList).1 = [46, 46]) : stepP [] p = none := by unfold stepP; rw [if_neg (by simp [h, h1]), if_neg (by simp [h1]), if_pos h1, if_pos rfl]
theorem stepP_up {out : List ByteArray} {p : ByteArray} (h : (unqR p.data.toList).2 = true) (h1 : (unqR p.data.toList).1 = [46, 46]) (ho : out ≠ []) : stepP out p = some out.dropLast := by unfold stepP; rw [if_neg (by simp [h, h1]), if_neg (by simp [h1]), if_pos h1, if_neg ho]
theorem stepP_push {out : List ByteArray} {p : ByteArray} (h : (unqR p.data.toList).2 = true) (h0 : ¬ (unqR p.data.toList).1 = []) (h1 : ¬ (unqR p.data.toList).1 = [46]) (h2 : ¬ (unqR p.data.toList).1 = [46, 46]) : stepP out p = some (out ++ [bytesOf (unqR p.data.toList).1]) := by unfold stepP; rw [if_neg (by simp [h, h0]), if_neg h1, if_neg h2]
end Go.Proofs.YtcgljeagjchobaaGreat.M
namespace Go.Proofs.YtcgljeagjchobaaGreat.M

theorem digL_not47 : ∀ n : Fin 16, ¬ digL n.val = 47 := by decide

theorem quote_no47 (l : List UInt8) : 47 ∉ quoteL l := by
  induction l with
  | nil => simp [quoteL]
  | cons c r ih =>
    have e : quoteL (c :: r) = quoteB c ++ quoteL r := by simp [quoteL]
    rw [e, List.mem_append]
    rintro (h | h)
    · cases hf : freeB (c.toNat : Int)
      · rw [quoteB_no hf] at h
        have hc := c.toNat_lt
        have h1 := digL_not47 ⟨c.toNat / 16, by omega⟩
        have h2 := digL_not47 ⟨c.toNat % 16, by omega⟩
        simp only at h1 h2
        simp only [List.mem_cons, List.not_mem_nil, or_false] at h
        rcases h with h | h | h
        · exact absurd h (by decide)
        · exact h1 h.symm
        · exact h2 h.symm
      · rw [quoteB_yes hf] at h
        simp only [List.mem_cons, List.not_mem_nil, or_false] at h
        rw [← h] at hf
        exact absurd hf (by decide)
    · exact ih h

theorem tellL_cons (s : ByteArray) (r : List ByteArray) : tellL (s :: r) = 47 :: (quoteL s.data.toList ++ tellL r) := by
  simp [tellL]

theorem cuts_tell (r : List ByteArray) : ∀ s : ByteArray, cuts (quoteL s.data.toList ++ tellL r) = quoteL s.data.toList :: r.map fun t => quoteL t.data.toList := by
  induction r with
  | nil => intro s; simp only [tellL, List.flatMap_nil, List.append_nil, List.map_nil]; exact cuts_none _ (quote_no47 _)
  | cons t r ih =>
    intro s
    rw [tellL_cons, cuts_app _ _ (quote_no47 _), ih t, List.map_cons]

theorem pieces_tell (s : ByteArray) (r : List ByteArray) : piecesL (quoteL s.data.toList ++ tellL r) = (s :: r).map qB := by
  unfold piecesL
  rw [cuts_tell, List.map_cons, List.map_map]
  rfl

theorem quote_ne {l : List UInt8} (h : l ≠ []) : quoteL l ≠ [] := by
  intro e
  have := unq_quote l
  rw [e] at this
  simp [unq] at this
  exact h this

theorem nameB_ne {s : ByteArray} (h : nameB s = true) : s.data.toList ≠ [] ∧ ¬ s.data.toList = [46] ∧ ¬ s.data.toList = [46, 46] := by
  unfold nameB at h
  simp only [Bool.and_eq_true, inB, decide_eq_true_eq, Bool.not_eq_true', beq_eq_false_iff_ne, ByteArray.toList_eq] at h
  obtain ⟨_, ⟨h1, _⟩, _, h2, h3⟩ := h
  refine ⟨fun e => ?_, h2, h3⟩
  have e2 : s.data.toList.length = s.size := Array.length_toList
  rw [e] at e2
  simp at e2
  omega

theorem bytesOf_back (s : ByteArray) : bytesOf s.data.toList = s := by
  apply ByteArray.ext
  simp [bytesOf]

theorem step_q {s : ByteArray} (h : nameB s = true) (out : List ByteArray) : stepP out (qB s) = some (out ++ [s]) := by
  have e : unqR (qB s).data.toList = (s.data.toList, true) := unqR_quote _
  obtain ⟨h0, h1, h2⟩ := nameB_ne h
  rw [stepP_push (by rw [e]) (by rw [e]; exact h0) (by rw [e]; exact h1) (by rw [e]; exact h2), e, bytesOf_back]

theorem fold_q (ss : List ByteArray) : ∀ out : List ByteArray, (∀ s ∈ ss, nameB s = true) → foldP out (ss.map qB) = some (out ++ ss) := by
  induction ss with
  | nil => intro out _; simp [foldP]
  | cons s r ih =>
    intro out h
    rw [List.map_cons, foldP, step_q (h s (by simp)), Option.bind_some, ih _ (fun t ht => h t (List.mem_cons_of_mem _ ht)), List.append_assoc]
    rfl

theorem strip_q {ss : List ByteArray} (h : ∀ s ∈ ss, nameB s = true) : strip (ss.map qB) = ss.map qB := by
  unfold strip
  rw [if_neg]
  intro e
  have hm : bytesOf [] ∈ ss.map qB := List.mem_of_getLast? e
  obtain ⟨s, hs, he⟩ := List.mem_map.1 hm
  have h1 := congrArg (fun x : ByteArray => x.data.toList) he
  exact quote_ne (nameB_ne (h s hs)).1 h1

theorem pathB_all {ss : List ByteArray} (h : pathB ss = true) : ∀ s ∈ ss, nameB s = true := by
  unfold pathB at h
  simp only [Bool.and_eq_true, List.all_eq_true] at h
  exact h.1

/-- A path comes back of its text. -/
theorem parseP_text {ss : List ByteArray} (h : pathB ss = true) : parseP (ptextL ss) = (ss, true) := by
  cases ss with
  | nil => rw [ptextL_nil]; decide
  | cons s r =>
    rw [ptextL_some h (by simp), tellL_cons]
    have ha := pathB_all h
    refine parseP_yes rfl ?_ h
    show foldP [] (strip (piecesL (quoteL s.data.toList ++ tellL r))) = some (s :: r)
    rw [pieces_tell, strip_q ha, fold_q _ _ ha]
    rfl

/-- What is read is a path. -/
theorem parseP_path {l : List UInt8} (h : (parseP l).2 = true) : pathB (parseP l).1 = true := by
  unfold parseP at h ⊢
  split
  · rename_i hh
    rw [if_pos hh] at h
    split
    · rename_i ns hns
      rw [hns] at h
      by_cases hp : pathB ns = true
      · simp [hp]
      · simp [hp] at h
    · rename_i hns
      rw [hns] at h
      exact absurd h (by decide)
  · rename_i hh
    rw [if_neg hh] at h
    exact absurd h (by decide)

theorem ptextL_len {ss : List ByteArray} : (ptextL ss).length ≤ 100 := by
  cases hp : pathB ss
  · rw [ptextL_not hp]; simp
  · by_cases h0 : ss = []
    · subst h0; rw [ptextL_nil]; simp
    · rw [ptextL_some hp h0]
      have h1 := tellL_le hp ss.length (Nat.le_refl _)
      rw [List.take_length] at h1
      have := pathB_len hp
      omega
end Go.Proofs.YtcgljeagjchobaaGreat.M
